/- The reference implementation's Parse: eleven bytes. -/
import Derived.Test.YtfpmmfoinjcclaaDoorTcRefParseM
import Derived.Deep.RegionHeld3
import Derived.Deep.AppendLies
import Derived.Maps.AppendAt
namespace Go.Proofs.YtfpmmfoinjcclaaDoor
open Go.RowKit

theorem txtL_lt {p h m s f : Nat} (hp : p < 256) (b1 : h < 100) (b2 : m < 100) (b3 : s < 100) (b4 : f < 100) : ∀ a ∈ txtL p h m s f, a < 256 := by
  intro a ha
  unfold txtL at ha
  simp only [List.mem_append, List.mem_singleton] at ha
  rcases ha with (((((((ha | ha) | ha) | ha) | ha) | ha) | ha))
  · exact two_lt b1 a ha
  · omega
  · exact two_lt b2 a ha
  · omega
  · exact two_lt b3 a ha
  · omega
  · exact two_lt b4 a ha
theorem held6 {w w8 w9 : World} {g B : Nat} {u f a b c d : Int} (hg : g < w.heap.size) (hB : B < w.heap.size)
    (h : w8.cell? ⟨g, 2, none⟩ = some (iv u) ∧ w8.cell? ⟨g, 3, none⟩ = some (iv f) ∧ w8.cell? ⟨B, 0, none⟩ = some (iv a) ∧ w8.cell? ⟨B, 1, none⟩ = some (iv b) ∧ w8.cell? ⟨B, 2, none⟩ = some (iv c) ∧ w8.cell? ⟨B, 3, none⟩ = some (iv d) ∧ Below w.heap.size w w8) (hb : Below w8.heap.size w8 w9) :
    w9.cell? ⟨g, 2, none⟩ = some (iv u) ∧ w9.cell? ⟨g, 3, none⟩ = some (iv f) ∧ w9.cell? ⟨B, 0, none⟩ = some (iv a) ∧ w9.cell? ⟨B, 1, none⟩ = some (iv b) ∧ w9.cell? ⟨B, 2, none⟩ = some (iv c) ∧ w9.cell? ⟨B, 3, none⟩ = some (iv d) ∧ Below w.heap.size w w9 := by
  obtain ⟨g0, g1, h0, h1, h2, h3, h4⟩ := h
  have hs := h4.size
  exact ⟨(hb.cell (p := ⟨g, 2, none⟩) (by simp; omega)).trans g0, (hb.cell (p := ⟨g, 3, none⟩) (by simp; omega)).trans g1, (hb.cell (p := ⟨B, 0, none⟩) (by simp; omega)).trans h0, (hb.cell (p := ⟨B, 1, none⟩) (by simp; omega)).trans h1, (hb.cell (p := ⟨B, 2, none⟩) (by simp; omega)).trans h2, (hb.cell (p := ⟨B, 3, none⟩) (by simp; omega)).trans h3, bthen h4 hb⟩
theorem own_le' {W : World} {base : Nat} {e : TypeId} {size : Nat} {v : Value} {k : Nat} {xs : List Value} (h : W.ownsRow base e size v k xs) : ∀ j, v.ownBlock = some j → base ≤ j := by
  intro j hj
  rcases h.2 with ⟨rfl, _⟩ | ⟨g, cap, cur, rfl, hb, _⟩
  · cases hj
  · simp [Value.ownBlock] at hj; omega
theorem keepApp {w w8 w9 : World} {e : TypeId} {size : Nat} {v : Value} {n : Nat} {xs : List Value} (h : Below w.heap.size w w8) (hg : w8.grownBy w9 v.ownBlock) (own : w8.ownsRow w.heap.size e size v n xs) : Below w.heap.size w w9 :=
  h.grown hg h.size (own_le' own)
theorem infoI' : (Tryd.prog.info? 3).map (fun i => (i.zero, i.size, i.bytes)) = some (some (.int .i64 0), 1, 8) := by kernel_rfl
def vls (l : List Nat) (k : Nat) : List Value := (List.range k).map fun j => iv (vl l (3 * j) : Nat)
theorem vls_succ (l : List Nat) (k : Nat) : vls l (k + 1) = vls l k ++ [iv (vl l (3 * k) : Nat)] := by simp [vls, List.range_succ]
def RPI (l : List Nat) (N k : Nat) (v : Value) (w wr : World) : Prop := (∀ j, j < k → dg l (3 * j)) ∧ wr.ownsRow N 3 1 v k (vls l k) ∧ Below N w wr

set_option maxRecDepth 100000 in
set_option maxHeartbeats 4000000 in
theorem rparse_ok (x : Rt) (hx : x ∈ rtL) (s : ByteArray) (hs : s.size = 11) (w : World) :
    Calls Tryd.prog 28 #[x.val, .string s] w fun e w' => e = .returned (.tuple #[.int .i64 (numO (parseZ x (nb s))), .int .i64 (errO (parseZ x (nb s)))]) ∧ Below w.heap.size w w' := by
  have hf := fun W => rfind_ok x hx W
  have hl : (nb s).length = 11 := by rw [nb_len]; exact hs
  have hdg := fun j hj h => rparse_dg hx hl (j := j) hj h
  have hval := rparse_val hx hl
  have f1 : ((s.size : Int) != 11) = false := by rw [hs]; simp
  have f2 : ((s.size : Int) == 11) = true := by rw [hs]; simp
  have hby := fun k (h : k < s.size) => byte_at (s := s) h
  have hb256 := fun k => getD_lt (nb_lt s) (by decide) k
  obtain ⟨l, hll⟩ : ∃ l, nb s = l := ⟨_, rfl⟩
  rw [hll] at hl hdg hval hby hb256 ⊢
  obtain ⟨P, hP⟩ : ∃ P, parseZ x l = P := ⟨_, rfl⟩
  rw [hP] at hdg hval ⊢
  obtain ⟨z1, hz1⟩ : ∃ z, numO P = z := ⟨_, rfl⟩
  obtain ⟨z2, hz2⟩ : ∃ z, errO P = z := ⟨_, rfl⟩
  rw [hz1, hz2]
  have HLL := Lib.hid hll
  obtain ⟨-, -, -, -, x5, x6, x7⟩ := rt_bd hx
  have HV := Lib.hid hval
  have HD := Lib.hid hdg
  have HZ1 := Lib.hid hz1
  have HZ2 := Lib.hid hz2
  have HBY := Lib.hid hby
  have HB := Lib.hid hb256
  clear hll hl hdg hval hP hz1 hz2 hby hb256
  unfold Rt.val Rt.row at *
  obtain ⟨i0, hi, hi0, hi1, hi2⟩ := info_parts infoI'
  obtain ⟨a, ha⟩ : ∃ a, x.num = a := ⟨_, rfl⟩
  obtain ⟨b, hb⟩ : ∃ b, x.den = b := ⟨_, rfl⟩
  obtain ⟨c, hc⟩ : ∃ c, x.base = c := ⟨_, rfl⟩
  obtain ⟨d, hd⟩ : ∃ d, x.drop = d := ⟨_, rfl⟩
  rw [ha, hb, hc, hd] at hf
  rw [ha, hb]
  have HC := Lib.hid hc
  have HDR := Lib.hid hd
  have HX := Lib.hid hx
  clear ha hb hc hd hx
  go_enter Tryd.func28, Tryd.ntmps28
  go_wp2_with fail
  obtain ⟨W0, hW0, hb0, hsz, k0, k1⟩ := box2 w a b
  rw [hW0]; clear hW0
  refine Calls.mono (hf _) ?_; rintro e W1 ⟨rfl, b1⟩
  have hb1 := bthen hb0 b1
  clear hf k0 k1 hsz hb0 b1 f2
  go_wp2_with fail
  obtain ⟨T6, hT6⟩ : ∃ T6, W1.heap.size = T6 := ⟨_, rfl⟩
  obtain ⟨W2, hW2, hb2, hsz2, k0, k1, k2, k3⟩ := box4r W1 a b c d
  change Code.wp _ _ _ _ (W1.alloc (.cells #[iv a, iv b, iv c, iv d] 39))
  rw [hW2]; clear hW2
  rw [hT6] at k0 k1 k2 k3 hsz2 ⊢
  have hb02 := bthen hb1 hb2
  have hT2 : T6 < W2.heap.size := by omega
  clear hT6 hb1 hb2
  go_loopw [8, 9] (fun v iv' wr => ∃ k q : Nat, iv' = .int .i64 (q : Int) ∧ Hid (q = 3 * k) ∧ k ≤ 4 ∧ q ≤ 12 ∧ RPI l W2.heap.size k v W2 wr) (fun _ i _ => 12 - (intOf i).toNat)
  case atStart => exact ⟨0, 0, rfl, Lib.hid rfl, by omega, by omega, fun j hj => by omega, World.ownsRow_nil _ _ _ _, Below.refl _ _⟩
  case round =>
    obtain ⟨k, q, rfl, HQ, hk, hq12, hI⟩ := hrel
    obtain ⟨hdk, hown, hB⟩ := hI
    have hBs := hB.size
    by_cases hk4 : k < 4
    · have hq9 : q ≤ 9 := by have := HQ.out; omega
      have hbA := HBY.out q (by omega)
      have hbB := HBY.out (q + 1) (by omega)
      have lA := HB.out q
      have lB := HB.out (q + 1)
      have hdgk : dg l (3 * k) ↔ (48 ≤ l.getD q 0 ∧ l.getD q 0 ≤ 57) ∧ (48 ≤ l.getD (q + 1) 0 ∧ l.getD (q + 1) 0 ≤ 57) := by rw [← HQ.out]; rfl
      have hvlk : vl l (3 * k) = (l.getD q 0 - 48) * 10 + (l.getD (q + 1) 0 - 48) := by rw [← HQ.out]; rfl
      obtain ⟨A, hA⟩ : ∃ A, l.getD q 0 = A := ⟨_, rfl⟩
      obtain ⟨B, hB'⟩ : ∃ B, l.getD (q + 1) 0 = B := ⟨_, rfl⟩
      rw [hA] at hbA lA hdgk hvlk
      rw [hB'] at hbB lB hdgk hvlk
      have HG := Lib.hid hdgk
      have HVL := Lib.hid hvlk
      have i1 : (0 : Int) ≤ (q : Int) := by omega
      have i2 : (q : Int) < (s.size : Int) := by omega
      have i2' : (q : Int) < 11 := by omega
      have i3 : (0 : Int) ≤ (q : Int) + 1 := by omega
      have i4 : (q : Int) + 1 < (s.size : Int) := by omega
      have i4' : (q : Int) + 1 < 11 := by omega
      have i5 : IntKind.i64.wrap ((q : Int) + 1) = (q : Int) + 1 := w64 (by omega) (by omega)
      have i6 : IntKind.i64.wrap ((q : Int) + 3) = (q : Int) + 3 := w64 (by omega) (by omega)
      clear hdgk hvlk hA hB'
      have hno : ¬ ((48 ≤ A ∧ A ≤ 57) ∧ (48 ≤ B ∧ B ≤ 57)) → z1 = 0 ∧ z2 = 30 := fun h => by
        have := HD.out k hk4 (fun hd => h (HG.out.1 hd))
        rw [this] at HZ1 HZ2
        exact ⟨HZ1.out.symm, HZ2.out.symm⟩
      have hbF : Below w.heap.size w wr := bthen hb02 hB
      by_cases hg : (48 ≤ A ∧ A ≤ 57) ∧ (48 ≤ B ∧ B ≤ 57)
      · clear hno
        obtain ⟨A', hA'⟩ : ∃ A', A - 48 = A' := ⟨_, rfl⟩
        obtain ⟨B', hB'⟩ : ∃ B', B - 48 = B' := ⟨_, rfl⟩
        have hvl := HVL.out
        rw [hA', hB'] at hvl
        obtain ⟨V, hV⟩ : ∃ V, A' * 10 + B' = V := ⟨_, rfl⟩
        rw [hV] at hvl
        have HVL := Lib.hid hvl
        have hdn := HG.out.2 hg
        have HDN := Lib.hid hdn
        obtain ⟨⟨g, g2⟩, g3, g4⟩ := hg
        have j1 : (48 : Int) ≤ (A : Int) := by omega
        have j2 : (A : Int) ≤ 57 := by omega
        have j3 : (48 : Int) ≤ (B : Int) := by omega
        have j4 : (B : Int) ≤ 57 := by omega
        have e1 : IntKind.u8.wrap ((A : Int) - 48) = (A' : Int) := by rw [IntKind.wrap_u8]; omega
        have e2 : IntKind.u8.wrap ((B : Int) - 48) = (B' : Int) := by rw [IntKind.wrap_u8]; omega
        have a9 : A' ≤ 9 := by omega
        have b9 : B' ≤ 9 := by omega
        have e3 : IntKind.i64.wrap (A' : Int) = (A' : Int) := w64 (by omega) (by omega)
        have e4 : IntKind.i64.wrap (B' : Int) = (B' : Int) := w64 (by omega) (by omega)
        have e5 : IntKind.i64.wrap ((A' : Int) * 10) = (A' : Int) * 10 := w64 (by omega) (by omega)
        have e6 : IntKind.i64.wrap ((A' : Int) * 10 + (B' : Int)) = (V : Int) := by rw [w64 (by omega) (by omega)]; omega
        clear hA' hB' hvl hdn hV
        go_wp2_with fail
        have hdk' : ∀ j, j < k + 1 → dg l (3 * j) := fun j hj => by
          rcases (by omega : j < k ∨ j = k) with h | rfl
          · exact hdk j h
          · exact HDN.out
        have HDK := Lib.hid hdk'
        clear hdk hdk'
        have hbd : Below W2.heap.size W2 wr.drew := hB.drew
        go_region_held3 (fun w' => Below W2.heap.size W2 w') (first | assumption | exact (show Below W2.heap.size W2 wr.drew from hbd).alloc (by simp; omega) _ | exact keepApp (by assumption) hgrow9 (hown.alloc _) | fail)
          (first | go_loud (refine step_append_lies _ (by rfl) _ _ 27 (by rfl) W2.heap.size 3 i0 (.int .i64 0) 1 8 Tryd.underlying27 hi hi0 hi1 hi2 rfl (by omega) _ k (vls l k) (by rfl) (hown.alloc _) ⟨wr.heap.size, 0, none⟩ 1 1 [.int .i64 (V : Int)] (by rfl) (by rfl) (cell_one_new _ _ _) (by simp [Value.oneCell']) (by omega) (by unfold maxLen; omega) (by omega) (by have := hB.size; simp; omega) (wr.heap.size + 1) (by simp) ?_; intro gg cap9 w9 hown9 hgrow9 hat9 hlt9) | fail)
        all_goals
          have hB9 : Below W2.heap.size W2 w9 := by assumption
          go_wp2_with fail
          go_roundw
          case rel =>
            refine ⟨k + 1, q + 3, by go_num, Lib.hid (by have := HQ.out; omega), by omega, by omega, HDK.out, ?_, hB9⟩
            rw [vls_succ, HVL.out]
            exact hown9
          case measure => simp [intOf]; omega
      · obtain ⟨h1, h2⟩ := hno hg
        have H1 := Lib.hid h1
        have H2 := Lib.hid h2
        have HN := Lib.hid hg
        clear hno h1 h2 HZ1 HZ2
        rcases (by omega : A < 48 ∨ (48 ≤ A ∧ 57 < A) ∨ (48 ≤ A ∧ A ≤ 57 ∧ B < 48) ∨ (48 ≤ A ∧ A ≤ 57 ∧ 48 ≤ B ∧ 57 < B)) with g | ⟨g, g2⟩ | ⟨g, g2, g3⟩ | ⟨g, g2, g3, g4⟩
        · clear hg
          have j1 : (A : Int) < 48 := by omega
          go_wp2_with fail
          go_ret2
          exact ⟨by rw [H1.out, H2.out]; rfl, hbF⟩
        · clear hg
          have j1 : (48 : Int) ≤ (A : Int) := by omega
          have j2 : 57 < (A : Int) := by omega
          go_wp2_with fail
          go_ret2
          exact ⟨by rw [H1.out, H2.out]; rfl, hbF⟩
        · clear hg
          have j1 : (48 : Int) ≤ (A : Int) := by omega
          have j2 : (A : Int) ≤ 57 := by omega
          have j3 : (B : Int) < 48 := by omega
          go_wp2_with fail
          go_ret2
          exact ⟨by rw [H1.out, H2.out]; rfl, hbF⟩
        · clear hg
          have j1 : (48 : Int) ≤ (A : Int) := by omega
          have j2 : (A : Int) ≤ 57 := by omega
          have j3 : (48 : Int) ≤ (B : Int) := by omega
          have j4 : 57 < (B : Int) := by omega
          go_wp2_with fail
          go_ret2
          exact ⟨by rw [H1.out, H2.out]; rfl, hbF⟩
    · obtain rfl : k = 4 := by omega
      obtain rfl : q = 12 := by have := HQ.out; omega
      obtain ⟨g, cap, rfl⟩ := ownsRow_succ hown
      have hg := (hown.lt g rfl).2
      have q0 : wr.cell? ⟨g, 0, none⟩ = some (iv (vl l 0 : Nat)) := hown.cellAt 0 (by decide)
      have q1 : wr.cell? ⟨g, 1, none⟩ = some (iv (vl l 3 : Nat)) := hown.cellAt 1 (by decide)
      have q2 : wr.cell? ⟨g, 2, none⟩ = some (iv (vl l 6 : Nat)) := hown.cellAt 2 (by decide)
      have q3 : wr.cell? ⟨g, 3, none⟩ = some (iv (vl l 9 : Nat)) := hown.cellAt 3 (by decide)
      have hbF : Below w.heap.size w wr := bthen hb02 hB
      have hTr : T6 < wr.heap.size := by omega
      have k0 := (hB.cell (p := ⟨T6, 0, none⟩) hT2).trans k0
      have k1 := (hB.cell (p := ⟨T6, 1, none⟩) hT2).trans k1
      have k2 := (hB.cell (p := ⟨T6, 2, none⟩) hT2).trans k2
      have k3 := (hB.cell (p := ⟨T6, 3, none⟩) hT2).trans k3
      have hV : P = if (vl l 0 < 24 ∧ vl l 3 < 60 ∧ vl l 6 < 60 ∧ vl l 9 < c) ∧ l = txtL x.sep (vl l 0) (vl l 3) (vl l 6) (vl l 9) ∧ ¬ (vl l 3 % 10 ≠ 0 ∧ vl l 6 = 0 ∧ vl l 9 < d)
        then some (indexZ x (60 * vl l 0 + vl l 3) (vl l 6) (vl l 9)) else none := by rw [← HC.out, ← HDR.out]; exact HV.out
      have hv9 : vl l 0 ≤ 99999 ∧ vl l 3 ≤ 99999 ∧ vl l 6 ≤ 99999 ∧ vl l 9 ≤ 99999 := by
        have h0 := HB.out 0; have h1 := HB.out 1; have h3 := HB.out 3; have h4 := HB.out 4; have h6 := HB.out 6; have h7 := HB.out 7; have h9 := HB.out 9; have h10 := HB.out 10
        simp only [vl, Nat.reduceAdd]; omega
      obtain ⟨hh, hhe⟩ : ∃ y, vl l 0 = y := ⟨_, rfl⟩
      obtain ⟨m, hme⟩ : ∃ y, vl l 3 = y := ⟨_, rfl⟩
      obtain ⟨u, hue⟩ : ∃ y, vl l 6 = y := ⟨_, rfl⟩
      obtain ⟨fr, hfe⟩ : ∃ y, vl l 9 = y := ⟨_, rfl⟩
      rw [hhe] at q0; rw [hme] at q1; rw [hue] at q2; rw [hfe] at q3
      rw [hhe, hme, hue, hfe] at hV hv9
      obtain ⟨v1, v2, v3, v4⟩ := hv9
      have HVV := Lib.hid hV
      have hno : ¬ (hh < 24 ∧ m < 60 ∧ u < 60 ∧ fr < c) → z1 = 0 ∧ z2 = 30 := fun h => by
        have := HVV.out
        rw [if_neg (fun h' => h h'.1)] at this
        rw [this] at HZ1 HZ2
        exact ⟨HZ1.out.symm, HZ2.out.symm⟩
      clear HD HBY HB hk4 hV HV hhe hme hue hfe hown hdk hq12 hk HQ
      by_cases hlim : hh < 24 ∧ m < 60 ∧ u < 60 ∧ fr < c
      · obtain ⟨l1, l2, l3, l4⟩ := hlim
        clear hno
        have j1 : (hh : Int) ≤ 23 := by omega
        have j2 : (m : Int) ≤ 59 := by omega
        have j3 : (u : Int) ≤ 59 := by omega
        have j4 : (fr : Int) < (c : Int) := by omega
        go_wp2_with fail
        go_quiet (fail)
        obtain ⟨wq, hwq⟩ : ∃ wq, wr.drewN nq = wq := ⟨_, rfl⟩
        have q0 : wq.cell? ⟨g, 0, none⟩ = some (iv (hh : Nat)) := by rw [← hwq]; exact q0
        have q1 : wq.cell? ⟨g, 1, none⟩ = some (iv (m : Nat)) := by rw [← hwq]; exact q1
        have q2 : wq.cell? ⟨g, 2, none⟩ = some (iv (u : Nat)) := by rw [← hwq]; exact q2
        have q3 : wq.cell? ⟨g, 3, none⟩ = some (iv (fr : Nat)) := by rw [← hwq]; exact q3
        have k0 : wq.cell? ⟨T6, 0, none⟩ = some (iv (a : Nat)) := by rw [← hwq]; exact k0
        have k1 : wq.cell? ⟨T6, 1, none⟩ = some (iv (b : Nat)) := by rw [← hwq]; exact k1
        have k2 : wq.cell? ⟨T6, 2, none⟩ = some (iv (c : Nat)) := by rw [← hwq]; exact k2
        have k3 : wq.cell? ⟨T6, 3, none⟩ = some (iv (d : Nat)) := by rw [← hwq]; exact k3
        have hbQ : Below w.heap.size w wq := by rw [← hwq]; exact below_drewN hbF nq
        have hgq : g < wq.heap.size := by rw [← hwq]; exact hg
        have hTq : T6 < wq.heap.size := by rw [← hwq]; exact hTr
        rw [hwq]; clear hwq
        obtain ⟨D, hD⟩ : ∃ D, hh * 60 + m = D := ⟨_, rfl⟩
        have e1 : IntKind.i64.wrap ((hh : Int) * 60) = (hh : Int) * 60 := w64 (by omega) (by omega)
        have e2 : IntKind.i64.wrap ((hh : Int) * 60 + (m : Int)) = (D : Int) := by rw [w64 (by omega) (by omega)]; omega
        have hD9 : D < 1440 := by omega
        have HDe := Lib.hid hD
        clear hD
        go_wp2_with fail
        go_quiet (fail)
        go_wp2_with fail
        obtain ⟨wp, hwp⟩ : ∃ wp, wq.drewN nq = wp := ⟨_, rfl⟩
        have q2 : wp.cell? ⟨g, 2, none⟩ = some (iv (u : Nat)) := by rw [← hwp]; exact q2
        have q3 : wp.cell? ⟨g, 3, none⟩ = some (iv (fr : Nat)) := by rw [← hwp]; exact q3
        have k0 : wp.cell? ⟨T6, 0, none⟩ = some (iv (a : Nat)) := by rw [← hwp]; exact k0
        have k1 : wp.cell? ⟨T6, 1, none⟩ = some (iv (b : Nat)) := by rw [← hwp]; exact k1
        have k2 : wp.cell? ⟨T6, 2, none⟩ = some (iv (c : Nat)) := by rw [← hwp]; exact k2
        have k3 : wp.cell? ⟨T6, 3, none⟩ = some (iv (d : Nat)) := by rw [← hwp]; exact k3
        have hbQ : Below w.heap.size w wp := by rw [← hwp]; exact below_drewN hbQ nq
        have hgq : g < wp.heap.size := by rw [← hwp]; exact hgq
        have hTq : T6 < wp.heap.size := by rw [← hwp]; exact hTq
        rw [hwp]; clear hwp
        have xc : c ≤ 60 := by rw [← HC.out]; exact x6
        have xd : d ≤ 4 := by rw [← HDR.out]; exact x7
        have hD60 : D / 60 = hh ∧ D % 60 = m := by have := HDe.out; omega
        have hTx := fun W => rtext_any a b c d D u fr W (by omega) hD9 (by omega) (by omega)
        obtain ⟨sT, hsT⟩ : ∃ sT, strN (txtL (if 0 < d then 59 else 58) (D / 60) (D % 60) u fr) = sT := ⟨_, rfl⟩
        have hst : sT = s ↔ l = txtL x.sep hh m u fr := by
          have hlt := txtL_lt (p := if 0 < d then 59 else 58) (h := hh) (m := m) (s := u) (f := fr) (by split <;> decide) (by omega) (by omega) (by omega) (by omega)
          have hse : x.sep = if 0 < d then 59 else 58 := by rw [← HDR.out]; rfl
          rw [← hsT, hD60.1, hD60.2, hse]
          constructor
          · intro h; rw [← HLL.out, ← h, nb_strN hlt]
          · intro h; apply nb_inj; rw [nb_strN hlt, HLL.out, h]
        rw [hsT] at hTx
        have HST := Lib.hid hst
        have hS0 : wp.drew.cell? ⟨g, 2, none⟩ = some (iv u) ∧ wp.drew.cell? ⟨g, 3, none⟩ = some (iv fr) ∧ wp.drew.cell? ⟨T6, 0, none⟩ = some (iv a) ∧ wp.drew.cell? ⟨T6, 1, none⟩ = some (iv b) ∧ wp.drew.cell? ⟨T6, 2, none⟩ = some (iv c) ∧ wp.drew.cell? ⟨T6, 3, none⟩ = some (iv d) ∧ Below wp.heap.size wp wp.drew := ⟨q2, q3, k0, k1, k2, k3, (Below.refl _ wp).drew⟩
        clear hsT hst hD60
        by_cases hsame : sT = s
        · rw [hsame] at hTx
          have n1 : (s.toList == s.toList) = true := by simp
          have n2 : (s.toList != s.toList) = false := by simp
          have hl := HST.out.1 hsame
          have e60 : 60 * hh + m = D := by have := HDe.out; omega
          obtain ⟨sk, hsk⟩ : ∃ sk, skipZ x D = sk := ⟨_, rfl⟩
          have hskd : (if D % 10 = 0 then 0 else d) = sk := by rw [← hsk, ← HDR.out]; rfl
          have hdr := fun W => rdropped_any a b c d D W (by omega)
          rw [hskd] at hdr
          have hP : P = if u = 0 ∧ fr < sk then none else some (indexZ x D u fr) := by
            have h1 := HVV.out
            rw [e60] at h1
            have st := @skip_test x hh m u fr
            rw [e60, hsk, HDR.out] at st
            rw [h1]
            by_cases h : u = 0 ∧ fr < sk
            · rw [if_pos h, if_neg (fun h' => h'.2.2 (st.1 h))]
            · rw [if_neg h, if_pos ⟨⟨l1, l2, l3, l4⟩, hl, fun h' => h (st.2 h')⟩]
          have HPP := Lib.hid hP
          have HSK := Lib.hid hsk
          have hsk4 : sk ≤ 4 := by rw [← hskd]; split <;> omega
          clear hP hsk hskd HST HVV hl e60 hsame
          by_cases hu : u = 0
          · have u1 : ((u : Int) == 0) = true := by rw [beq_iff_eq]; omega
            have u2 : (u == 0) = true := by rw [beq_iff_eq]; omega
            by_cases hf : fr < sk
            · have f3 : decide ((fr : Int) < (sk : Int)) = true := decide_eq_true (by omega)
              have f4 : decide (fr < sk) = true := decide_eq_true hf
              have hz : z1 = 0 ∧ z2 = 30 := by
                have h := HPP.out
                rw [if_pos ⟨hu, hf⟩] at h
                rw [h] at HZ1 HZ2
                exact ⟨HZ1.out.symm, HZ2.out.symm⟩
              have H1 := Lib.hid hz.1
              have H2 := Lib.hid hz.2
              clear hz HZ1 HZ2 HPP hu hf
              refine wp_region_held_drew (S := (fun w' => w'.cell? ⟨g, 2, none⟩ = some (iv u) ∧ w'.cell? ⟨g, 3, none⟩ = some (iv fr) ∧ w'.cell? ⟨T6, 0, none⟩ = some (iv a) ∧ w'.cell? ⟨T6, 1, none⟩ = some (iv b) ∧ w'.cell? ⟨T6, 2, none⟩ = some (iv c) ∧ w'.cell? ⟨T6, 3, none⟩ = some (iv d) ∧ Below wp.heap.size wp w')) (by kernel_rfl) hS0 (fun hHeld => ?_)
              refine wpAnyH_take (i := 0) (v := ?_) (by simp only [List.getElem?_toArray, List.getElem?_cons_zero, List.getElem?_cons_succ]; rfl) (by kernel_rfl) (by kernel_rfl) (by kernel_rfl) (by intro _ _ _ h; exact h) (Or.inl ⟨by rfl, ?_⟩) (by assumption) ?_
              rotate_left 1
              · (intro w' hSw; (try dsimp only at hSw); go_simp; (try (with_reducible rfl)))
              try simp only [Act.put, List.setIfInBounds_toArray, List.set_cons_zero, List.set_cons_succ]
              refine wpAnyH_take (i := 1) (v := ?_) (by simp only [List.getElem?_toArray, List.getElem?_cons_zero, List.getElem?_cons_succ]; rfl) (by kernel_rfl) (by kernel_rfl) (by kernel_rfl) (by intro _ _ _ h; exact h) (Or.inl ⟨by rfl, ?_⟩) (by assumption) ?_
              rotate_left 1
              · (intro w' hSw; (try dsimp only at hSw); go_simp; (try (with_reducible rfl)))
              try simp only [Act.put, List.setIfInBounds_toArray, List.set_cons_zero, List.set_cons_succ]
              refine wpAnyH_take (i := 2) (v := ?_) (by simp only [List.getElem?_toArray, List.getElem?_cons_zero, List.getElem?_cons_succ]; rfl) (by kernel_rfl) (by kernel_rfl) (by kernel_rfl) (by intro _ _ _ h; exact h) (Or.inl ⟨by rfl, ?_⟩) (by assumption) ?_
              rotate_left 1
              · (intro w' hSw; (try dsimp only at hSw); go_simp; (try (with_reducible rfl)))
              try simp only [Act.put, List.setIfInBounds_toArray, List.set_cons_zero, List.set_cons_succ]
              refine wpAnyH_take (i := 3) (v := ?_) (by simp only [List.getElem?_toArray, List.getElem?_cons_zero, List.getElem?_cons_succ]; rfl) (by kernel_rfl) (by kernel_rfl) (by kernel_rfl) (by intro _ _ _ h; exact h) (Or.inl ⟨by rfl, ?_⟩) (by assumption) ?_
              rotate_left 1
              · (intro w' hSw; (try dsimp only at hSw); go_simp; (try (with_reducible rfl)))
              try simp only [Act.put, List.setIfInBounds_toArray, List.set_cons_zero, List.set_cons_succ]
              refine wpAnyH_take (i := 4) (v := ?_) (by simp only [List.getElem?_toArray, List.getElem?_cons_zero, List.getElem?_cons_succ]; rfl) (by kernel_rfl) (by kernel_rfl) (by kernel_rfl) (by intro _ _ _ h; exact h) (Or.inl ⟨by rfl, ?_⟩) (by assumption) ?_
              rotate_left 1
              · (intro w' hSw; (try dsimp only at hSw); go_simp; (try (with_reducible rfl)))
              try simp only [Act.put, List.setIfInBounds_toArray, List.set_cons_zero, List.set_cons_succ]
              refine wpAnyH_take (i := 5) (v := ?_) (by simp only [List.getElem?_toArray, List.getElem?_cons_zero, List.getElem?_cons_succ]; rfl) (by kernel_rfl) (by kernel_rfl) (by kernel_rfl) (by intro _ _ _ h; exact h) (Or.inl ⟨by rfl, ?_⟩) (by assumption) ?_
              rotate_left 1
              · (intro w' hSw; (try dsimp only at hSw); go_simp; (try (with_reducible rfl)))
              try simp only [Act.put, List.setIfInBounds_toArray, List.set_cons_zero, List.set_cons_succ]
              refine wpAnyH_take (i := 6) (v := ?_) (by simp only [List.getElem?_toArray, List.getElem?_cons_zero, List.getElem?_cons_succ]; rfl) (by kernel_rfl) (by kernel_rfl) (by kernel_rfl) (by intro _ _ _ h; exact h) (Or.inl ⟨by rfl, ?_⟩) (by assumption) ?_
              rotate_left 1
              · (intro w' hSw; (try dsimp only at hSw); go_simp; (try (with_reducible rfl)))
              try simp only [Act.put, List.setIfInBounds_toArray, List.set_cons_zero, List.set_cons_succ]
              refine wpAnyH_take (i := 7) (v := ?_) (by simp only [List.getElem?_toArray, List.getElem?_cons_zero, List.getElem?_cons_succ]; rfl) (by kernel_rfl) (by kernel_rfl) (by kernel_rfl) (by intro _ _ _ h; exact h) (Or.inl ⟨by rfl, ?_⟩) (by assumption) ?_
              rotate_left 1
              · (intro w' hSw; (try dsimp only at hSw); go_simp; (try (with_reducible rfl)))
              try simp only [Act.put, List.setIfInBounds_toArray, List.set_cons_zero, List.set_cons_succ]
              refine wpAnyH_take (i := 9) (v := ?_) (by simp only [List.getElem?_toArray, List.getElem?_cons_zero, List.getElem?_cons_succ]; rfl) (by kernel_rfl) (by kernel_rfl) (by kernel_rfl) (by intro _ _ _ h; exact h) (Or.inl ⟨by rfl, ?_⟩) (by assumption) ?_
              rotate_left 1
              · (intro w' hSw; (try dsimp only at hSw); go_simp; (try (with_reducible rfl)))
              try simp only [Act.put, List.setIfInBounds_toArray, List.set_cons_zero, List.set_cons_succ]
              refine wpAnyH_ready (rs := [8]) (by kernel_rfl) (by simp) ?_
              refine AllReadyH.cons (by simp only [List.getElem?_toArray, List.getElem?_cons_zero, List.getElem?_cons_succ]; rfl) (fun K hK => ?_) AllReadyH.nil
              go_simp
              go_at_call 44
              refine Calls.mono (hTx _) ?_; rintro e W5 ⟨rfl, b5⟩
              refine hK.out _ _ (held6 hgq hTq (by assumption) b5) (fun hHeld => ?_)
              clear hK K
              try simp only [Act.put, List.setIfInBounds_toArray, List.set_cons_zero, List.set_cons_succ]
              refine wpAnyH_take (i := 10) (v := ?_) (by simp only [List.getElem?_toArray, List.getElem?_cons_zero, List.getElem?_cons_succ]; rfl) (by kernel_rfl) (by kernel_rfl) (by kernel_rfl) (by intro _ _ _ h; exact h) (Or.inl ⟨by rfl, ?_⟩) (by assumption) ?_
              rotate_left 1
              · (intro w' hSw; (try dsimp only at hSw); go_simp; (try (with_reducible rfl)))
              try simp only [Act.put, List.setIfInBounds_toArray, List.set_cons_zero, List.set_cons_succ]
              refine wpAnyH_take (i := 11) (v := ?_) (by simp only [List.getElem?_toArray, List.getElem?_cons_zero, List.getElem?_cons_succ]; rfl) (by kernel_rfl) (by kernel_rfl) (by kernel_rfl) (by intro _ _ _ h; exact h) (Or.inl ⟨by rfl, ?_⟩) (by assumption) ?_
              rotate_left 1
              · (intro w' hSw; (try dsimp only at hSw); go_simp; (try (with_reducible rfl)))
              try simp only [Act.put, List.setIfInBounds_toArray, List.set_cons_zero, List.set_cons_succ]
              refine wpAnyH_take (i := 12) (v := ?_) (by simp only [List.getElem?_toArray, List.getElem?_cons_zero, List.getElem?_cons_succ]; rfl) (by kernel_rfl) (by kernel_rfl) (by kernel_rfl) (by intro _ _ _ h; exact h) (Or.inl ⟨by rfl, ?_⟩) (by assumption) ?_
              rotate_left 1
              · (intro w' hSw; (try dsimp only at hSw); go_simp; (try (with_reducible rfl)))
              try simp only [Act.put, List.setIfInBounds_toArray, List.set_cons_zero, List.set_cons_succ]
              refine wpAnyH_take (i := 13) (v := ?_) (by simp only [List.getElem?_toArray, List.getElem?_cons_zero, List.getElem?_cons_succ]; rfl) (by kernel_rfl) (by kernel_rfl) (by kernel_rfl) (by intro _ _ _ h; exact h) (Or.inl ⟨by rfl, ?_⟩) (by assumption) ?_
              rotate_left 1
              · (intro w' hSw; (try dsimp only at hSw); go_simp; (try (with_reducible rfl)))
              try simp only [Act.put, List.setIfInBounds_toArray, List.set_cons_zero, List.set_cons_succ]
              refine wpAnyH_take (i := 14) (v := ?_) (by simp only [List.getElem?_toArray, List.getElem?_cons_zero, List.getElem?_cons_succ]; rfl) (by kernel_rfl) (by kernel_rfl) (by kernel_rfl) (by intro _ _ _ h; exact h) (Or.inl ⟨by rfl, ?_⟩) (by assumption) ?_
              rotate_left 1
              · (intro w' hSw; (try dsimp only at hSw); go_simp; (try (with_reducible rfl)))
              try simp only [Act.put, List.setIfInBounds_toArray, List.set_cons_zero, List.set_cons_succ]
              refine wpAnyH_take (i := 15) (v := ?_) (by simp only [List.getElem?_toArray, List.getElem?_cons_zero, List.getElem?_cons_succ]; rfl) (by kernel_rfl) (by kernel_rfl) (by kernel_rfl) (by intro _ _ _ h; exact h) (Or.inl ⟨by rfl, ?_⟩) (by assumption) ?_
              rotate_left 1
              · (intro w' hSw; (try dsimp only at hSw); go_simp; (try (with_reducible rfl)))
              try simp only [Act.put, List.setIfInBounds_toArray, List.set_cons_zero, List.set_cons_succ]
              refine wpAnyH_take (i := 16) (v := ?_) (by simp only [List.getElem?_toArray, List.getElem?_cons_zero, List.getElem?_cons_succ]; rfl) (by kernel_rfl) (by kernel_rfl) (by kernel_rfl) (by intro _ _ _ h; exact h) (Or.inl ⟨by rfl, ?_⟩) (by assumption) ?_
              rotate_left 1
              · (intro w' hSw; (try dsimp only at hSw); go_simp; (try (with_reducible rfl)))
              try simp only [Act.put, List.setIfInBounds_toArray, List.set_cons_zero, List.set_cons_succ]
              refine wpAnyH_take (i := 17) (v := ?_) (by simp only [List.getElem?_toArray, List.getElem?_cons_zero, List.getElem?_cons_succ]; rfl) (by kernel_rfl) (by kernel_rfl) (by kernel_rfl) (by intro _ _ _ h; exact h) (Or.inl ⟨by rfl, ?_⟩) (by assumption) ?_
              rotate_left 1
              · (intro w' hSw; (try dsimp only at hSw); go_simp; (try (with_reducible rfl)))
              try simp only [Act.put, List.setIfInBounds_toArray, List.set_cons_zero, List.set_cons_succ]
              refine wpAnyH_take (i := 18) (v := ?_) (by simp only [List.getElem?_toArray, List.getElem?_cons_zero, List.getElem?_cons_succ]; rfl) (by kernel_rfl) (by kernel_rfl) (by kernel_rfl) (by intro _ _ _ h; exact h) (Or.inl ⟨by rfl, ?_⟩) (by assumption) ?_
              rotate_left 1
              · (intro w' hSw; (try dsimp only at hSw); go_simp; (try (with_reducible rfl)))
              try simp only [Act.put, List.setIfInBounds_toArray, List.set_cons_zero, List.set_cons_succ]
              refine wpAnyH_take (i := 19) (v := ?_) (by simp only [List.getElem?_toArray, List.getElem?_cons_zero, List.getElem?_cons_succ]; rfl) (by kernel_rfl) (by kernel_rfl) (by kernel_rfl) (by intro _ _ _ h; exact h) (Or.inl ⟨by rfl, ?_⟩) (by assumption) ?_
              rotate_left 1
              · (intro w' hSw; (try dsimp only at hSw); go_simp; (try (with_reducible rfl)))
              try simp only [Act.put, List.setIfInBounds_toArray, List.set_cons_zero, List.set_cons_succ]
              refine wpAnyH_take (i := 20) (v := ?_) (by simp only [List.getElem?_toArray, List.getElem?_cons_zero, List.getElem?_cons_succ]; rfl) (by kernel_rfl) (by kernel_rfl) (by kernel_rfl) (by intro _ _ _ h; exact h) (Or.inl ⟨by rfl, ?_⟩) (by assumption) ?_
              rotate_left 1
              · (intro w' hSw; (try dsimp only at hSw); go_simp; (try (with_reducible rfl)))
              try simp only [Act.put, List.setIfInBounds_toArray, List.set_cons_zero, List.set_cons_succ]
              refine wpAnyH_take (i := 21) (v := ?_) (by simp only [List.getElem?_toArray, List.getElem?_cons_zero, List.getElem?_cons_succ]; rfl) (by kernel_rfl) (by kernel_rfl) (by kernel_rfl) (by intro _ _ _ h; exact h) (Or.inl ⟨by rfl, ?_⟩) (by assumption) ?_
              rotate_left 1
              · (intro w' hSw; (try dsimp only at hSw); go_simp; (try (with_reducible rfl)))
              try simp only [Act.put, List.setIfInBounds_toArray, List.set_cons_zero, List.set_cons_succ]
              refine wpAnyH_ready (rs := [22]) (by kernel_rfl) (by simp) ?_
              refine AllReadyH.cons (by simp only [List.getElem?_toArray, List.getElem?_cons_zero, List.getElem?_cons_succ]; rfl) (fun K hK => ?_) AllReadyH.nil
              go_simp
              go_at_call 43
              refine Calls.mono (hdr _) ?_; rintro e W6 ⟨rfl, b6⟩
              refine hK.out _ _ (held6 hgq hTq (by assumption) b6) (fun hHeld => ?_)
              clear hK K
              try simp only [Act.put, List.setIfInBounds_toArray, List.set_cons_zero, List.set_cons_succ]
              refine wpAnyH_take (i := 23) (v := ?_) (by simp only [List.getElem?_toArray, List.getElem?_cons_zero, List.getElem?_cons_succ]; rfl) (by kernel_rfl) (by kernel_rfl) (by kernel_rfl) (by intro _ _ _ h; exact h) (Or.inl ⟨by rfl, ?_⟩) (by assumption) ?_
              rotate_left 1
              · (intro w' hSw; (try dsimp only at hSw); go_simp; (try (with_reducible rfl)))
              try simp only [Act.put, List.setIfInBounds_toArray, List.set_cons_zero, List.set_cons_succ]
              refine wpAnyH_take (i := 24) (v := ?_) (by simp only [List.getElem?_toArray, List.getElem?_cons_zero, List.getElem?_cons_succ]; rfl) (by kernel_rfl) (by kernel_rfl) (by kernel_rfl) (by intro _ _ _ h; exact h) (Or.inl ⟨by rfl, ?_⟩) (by assumption) ?_
              rotate_left 1
              · (intro w' hSw; (try dsimp only at hSw); go_simp; (try (with_reducible rfl)))
              try simp only [Act.put, List.setIfInBounds_toArray, List.set_cons_zero, List.set_cons_succ]
              refine wpAnyH_take (i := 25) (v := ?_) (by simp only [List.getElem?_toArray, List.getElem?_cons_zero, List.getElem?_cons_succ]; rfl) (by kernel_rfl) (by kernel_rfl) (by kernel_rfl) (by intro _ _ _ h; exact h) (Or.inl ⟨by rfl, ?_⟩) (by assumption) ?_
              rotate_left 1
              · (intro w' hSw; (try dsimp only at hSw); go_simp; (try (with_reducible rfl)))
              try simp only [Act.put, List.setIfInBounds_toArray, List.set_cons_zero, List.set_cons_succ]
              refine wpAnyH_done (by kernel_rfl) ?_ _
              go_wp2_with fail
              go_ret2
              exact ⟨by rw [H1.out, H2.out]; rfl, bthen hbQ hHeld.2.2.2.2.2.2⟩
            · have f3 : decide ((fr : Int) < (sk : Int)) = false := decide_eq_false (by omega)
              have f4 : decide (fr < sk) = false := decide_eq_false hf
              have hgo : ¬ (u = 0 ∧ fr < sk) := fun h => hf h.2
              clear hu hf
              refine wp_region_held_drew (S := (fun w' => w'.cell? ⟨g, 2, none⟩ = some (iv u) ∧ w'.cell? ⟨g, 3, none⟩ = some (iv fr) ∧ w'.cell? ⟨T6, 0, none⟩ = some (iv a) ∧ w'.cell? ⟨T6, 1, none⟩ = some (iv b) ∧ w'.cell? ⟨T6, 2, none⟩ = some (iv c) ∧ w'.cell? ⟨T6, 3, none⟩ = some (iv d) ∧ Below wp.heap.size wp w')) (by kernel_rfl) hS0 (fun hHeld => ?_)
              refine wpAnyH_take (i := 0) (v := ?_) (by simp only [List.getElem?_toArray, List.getElem?_cons_zero, List.getElem?_cons_succ]; rfl) (by kernel_rfl) (by kernel_rfl) (by kernel_rfl) (by intro _ _ _ h; exact h) (Or.inl ⟨by rfl, ?_⟩) (by assumption) ?_
              rotate_left 1
              · (intro w' hSw; (try dsimp only at hSw); go_simp; (try (with_reducible rfl)))
              try simp only [Act.put, List.setIfInBounds_toArray, List.set_cons_zero, List.set_cons_succ]
              refine wpAnyH_take (i := 1) (v := ?_) (by simp only [List.getElem?_toArray, List.getElem?_cons_zero, List.getElem?_cons_succ]; rfl) (by kernel_rfl) (by kernel_rfl) (by kernel_rfl) (by intro _ _ _ h; exact h) (Or.inl ⟨by rfl, ?_⟩) (by assumption) ?_
              rotate_left 1
              · (intro w' hSw; (try dsimp only at hSw); go_simp; (try (with_reducible rfl)))
              try simp only [Act.put, List.setIfInBounds_toArray, List.set_cons_zero, List.set_cons_succ]
              refine wpAnyH_take (i := 2) (v := ?_) (by simp only [List.getElem?_toArray, List.getElem?_cons_zero, List.getElem?_cons_succ]; rfl) (by kernel_rfl) (by kernel_rfl) (by kernel_rfl) (by intro _ _ _ h; exact h) (Or.inl ⟨by rfl, ?_⟩) (by assumption) ?_
              rotate_left 1
              · (intro w' hSw; (try dsimp only at hSw); go_simp; (try (with_reducible rfl)))
              try simp only [Act.put, List.setIfInBounds_toArray, List.set_cons_zero, List.set_cons_succ]
              refine wpAnyH_take (i := 3) (v := ?_) (by simp only [List.getElem?_toArray, List.getElem?_cons_zero, List.getElem?_cons_succ]; rfl) (by kernel_rfl) (by kernel_rfl) (by kernel_rfl) (by intro _ _ _ h; exact h) (Or.inl ⟨by rfl, ?_⟩) (by assumption) ?_
              rotate_left 1
              · (intro w' hSw; (try dsimp only at hSw); go_simp; (try (with_reducible rfl)))
              try simp only [Act.put, List.setIfInBounds_toArray, List.set_cons_zero, List.set_cons_succ]
              refine wpAnyH_take (i := 4) (v := ?_) (by simp only [List.getElem?_toArray, List.getElem?_cons_zero, List.getElem?_cons_succ]; rfl) (by kernel_rfl) (by kernel_rfl) (by kernel_rfl) (by intro _ _ _ h; exact h) (Or.inl ⟨by rfl, ?_⟩) (by assumption) ?_
              rotate_left 1
              · (intro w' hSw; (try dsimp only at hSw); go_simp; (try (with_reducible rfl)))
              try simp only [Act.put, List.setIfInBounds_toArray, List.set_cons_zero, List.set_cons_succ]
              refine wpAnyH_take (i := 5) (v := ?_) (by simp only [List.getElem?_toArray, List.getElem?_cons_zero, List.getElem?_cons_succ]; rfl) (by kernel_rfl) (by kernel_rfl) (by kernel_rfl) (by intro _ _ _ h; exact h) (Or.inl ⟨by rfl, ?_⟩) (by assumption) ?_
              rotate_left 1
              · (intro w' hSw; (try dsimp only at hSw); go_simp; (try (with_reducible rfl)))
              try simp only [Act.put, List.setIfInBounds_toArray, List.set_cons_zero, List.set_cons_succ]
              refine wpAnyH_take (i := 6) (v := ?_) (by simp only [List.getElem?_toArray, List.getElem?_cons_zero, List.getElem?_cons_succ]; rfl) (by kernel_rfl) (by kernel_rfl) (by kernel_rfl) (by intro _ _ _ h; exact h) (Or.inl ⟨by rfl, ?_⟩) (by assumption) ?_
              rotate_left 1
              · (intro w' hSw; (try dsimp only at hSw); go_simp; (try (with_reducible rfl)))
              try simp only [Act.put, List.setIfInBounds_toArray, List.set_cons_zero, List.set_cons_succ]
              refine wpAnyH_take (i := 7) (v := ?_) (by simp only [List.getElem?_toArray, List.getElem?_cons_zero, List.getElem?_cons_succ]; rfl) (by kernel_rfl) (by kernel_rfl) (by kernel_rfl) (by intro _ _ _ h; exact h) (Or.inl ⟨by rfl, ?_⟩) (by assumption) ?_
              rotate_left 1
              · (intro w' hSw; (try dsimp only at hSw); go_simp; (try (with_reducible rfl)))
              try simp only [Act.put, List.setIfInBounds_toArray, List.set_cons_zero, List.set_cons_succ]
              refine wpAnyH_take (i := 9) (v := ?_) (by simp only [List.getElem?_toArray, List.getElem?_cons_zero, List.getElem?_cons_succ]; rfl) (by kernel_rfl) (by kernel_rfl) (by kernel_rfl) (by intro _ _ _ h; exact h) (Or.inl ⟨by rfl, ?_⟩) (by assumption) ?_
              rotate_left 1
              · (intro w' hSw; (try dsimp only at hSw); go_simp; (try (with_reducible rfl)))
              try simp only [Act.put, List.setIfInBounds_toArray, List.set_cons_zero, List.set_cons_succ]
              refine wpAnyH_ready (rs := [8]) (by kernel_rfl) (by simp) ?_
              refine AllReadyH.cons (by simp only [List.getElem?_toArray, List.getElem?_cons_zero, List.getElem?_cons_succ]; rfl) (fun K hK => ?_) AllReadyH.nil
              go_simp
              go_at_call 44
              refine Calls.mono (hTx _) ?_; rintro e W5 ⟨rfl, b5⟩
              refine hK.out _ _ (held6 hgq hTq (by assumption) b5) (fun hHeld => ?_)
              clear hK K
              try simp only [Act.put, List.setIfInBounds_toArray, List.set_cons_zero, List.set_cons_succ]
              refine wpAnyH_take (i := 10) (v := ?_) (by simp only [List.getElem?_toArray, List.getElem?_cons_zero, List.getElem?_cons_succ]; rfl) (by kernel_rfl) (by kernel_rfl) (by kernel_rfl) (by intro _ _ _ h; exact h) (Or.inl ⟨by rfl, ?_⟩) (by assumption) ?_
              rotate_left 1
              · (intro w' hSw; (try dsimp only at hSw); go_simp; (try (with_reducible rfl)))
              try simp only [Act.put, List.setIfInBounds_toArray, List.set_cons_zero, List.set_cons_succ]
              refine wpAnyH_take (i := 11) (v := ?_) (by simp only [List.getElem?_toArray, List.getElem?_cons_zero, List.getElem?_cons_succ]; rfl) (by kernel_rfl) (by kernel_rfl) (by kernel_rfl) (by intro _ _ _ h; exact h) (Or.inl ⟨by rfl, ?_⟩) (by assumption) ?_
              rotate_left 1
              · (intro w' hSw; (try dsimp only at hSw); go_simp; (try (with_reducible rfl)))
              try simp only [Act.put, List.setIfInBounds_toArray, List.set_cons_zero, List.set_cons_succ]
              refine wpAnyH_take (i := 12) (v := ?_) (by simp only [List.getElem?_toArray, List.getElem?_cons_zero, List.getElem?_cons_succ]; rfl) (by kernel_rfl) (by kernel_rfl) (by kernel_rfl) (by intro _ _ _ h; exact h) (Or.inl ⟨by rfl, ?_⟩) (by assumption) ?_
              rotate_left 1
              · (intro w' hSw; (try dsimp only at hSw); go_simp; (try (with_reducible rfl)))
              try simp only [Act.put, List.setIfInBounds_toArray, List.set_cons_zero, List.set_cons_succ]
              refine wpAnyH_take (i := 13) (v := ?_) (by simp only [List.getElem?_toArray, List.getElem?_cons_zero, List.getElem?_cons_succ]; rfl) (by kernel_rfl) (by kernel_rfl) (by kernel_rfl) (by intro _ _ _ h; exact h) (Or.inl ⟨by rfl, ?_⟩) (by assumption) ?_
              rotate_left 1
              · (intro w' hSw; (try dsimp only at hSw); go_simp; (try (with_reducible rfl)))
              try simp only [Act.put, List.setIfInBounds_toArray, List.set_cons_zero, List.set_cons_succ]
              refine wpAnyH_take (i := 14) (v := ?_) (by simp only [List.getElem?_toArray, List.getElem?_cons_zero, List.getElem?_cons_succ]; rfl) (by kernel_rfl) (by kernel_rfl) (by kernel_rfl) (by intro _ _ _ h; exact h) (Or.inl ⟨by rfl, ?_⟩) (by assumption) ?_
              rotate_left 1
              · (intro w' hSw; (try dsimp only at hSw); go_simp; (try (with_reducible rfl)))
              try simp only [Act.put, List.setIfInBounds_toArray, List.set_cons_zero, List.set_cons_succ]
              refine wpAnyH_take (i := 15) (v := ?_) (by simp only [List.getElem?_toArray, List.getElem?_cons_zero, List.getElem?_cons_succ]; rfl) (by kernel_rfl) (by kernel_rfl) (by kernel_rfl) (by intro _ _ _ h; exact h) (Or.inl ⟨by rfl, ?_⟩) (by assumption) ?_
              rotate_left 1
              · (intro w' hSw; (try dsimp only at hSw); go_simp; (try (with_reducible rfl)))
              try simp only [Act.put, List.setIfInBounds_toArray, List.set_cons_zero, List.set_cons_succ]
              refine wpAnyH_take (i := 16) (v := ?_) (by simp only [List.getElem?_toArray, List.getElem?_cons_zero, List.getElem?_cons_succ]; rfl) (by kernel_rfl) (by kernel_rfl) (by kernel_rfl) (by intro _ _ _ h; exact h) (Or.inl ⟨by rfl, ?_⟩) (by assumption) ?_
              rotate_left 1
              · (intro w' hSw; (try dsimp only at hSw); go_simp; (try (with_reducible rfl)))
              try simp only [Act.put, List.setIfInBounds_toArray, List.set_cons_zero, List.set_cons_succ]
              refine wpAnyH_take (i := 17) (v := ?_) (by simp only [List.getElem?_toArray, List.getElem?_cons_zero, List.getElem?_cons_succ]; rfl) (by kernel_rfl) (by kernel_rfl) (by kernel_rfl) (by intro _ _ _ h; exact h) (Or.inl ⟨by rfl, ?_⟩) (by assumption) ?_
              rotate_left 1
              · (intro w' hSw; (try dsimp only at hSw); go_simp; (try (with_reducible rfl)))
              try simp only [Act.put, List.setIfInBounds_toArray, List.set_cons_zero, List.set_cons_succ]
              refine wpAnyH_take (i := 18) (v := ?_) (by simp only [List.getElem?_toArray, List.getElem?_cons_zero, List.getElem?_cons_succ]; rfl) (by kernel_rfl) (by kernel_rfl) (by kernel_rfl) (by intro _ _ _ h; exact h) (Or.inl ⟨by rfl, ?_⟩) (by assumption) ?_
              rotate_left 1
              · (intro w' hSw; (try dsimp only at hSw); go_simp; (try (with_reducible rfl)))
              try simp only [Act.put, List.setIfInBounds_toArray, List.set_cons_zero, List.set_cons_succ]
              refine wpAnyH_take (i := 19) (v := ?_) (by simp only [List.getElem?_toArray, List.getElem?_cons_zero, List.getElem?_cons_succ]; rfl) (by kernel_rfl) (by kernel_rfl) (by kernel_rfl) (by intro _ _ _ h; exact h) (Or.inl ⟨by rfl, ?_⟩) (by assumption) ?_
              rotate_left 1
              · (intro w' hSw; (try dsimp only at hSw); go_simp; (try (with_reducible rfl)))
              try simp only [Act.put, List.setIfInBounds_toArray, List.set_cons_zero, List.set_cons_succ]
              refine wpAnyH_take (i := 20) (v := ?_) (by simp only [List.getElem?_toArray, List.getElem?_cons_zero, List.getElem?_cons_succ]; rfl) (by kernel_rfl) (by kernel_rfl) (by kernel_rfl) (by intro _ _ _ h; exact h) (Or.inl ⟨by rfl, ?_⟩) (by assumption) ?_
              rotate_left 1
              · (intro w' hSw; (try dsimp only at hSw); go_simp; (try (with_reducible rfl)))
              try simp only [Act.put, List.setIfInBounds_toArray, List.set_cons_zero, List.set_cons_succ]
              refine wpAnyH_take (i := 21) (v := ?_) (by simp only [List.getElem?_toArray, List.getElem?_cons_zero, List.getElem?_cons_succ]; rfl) (by kernel_rfl) (by kernel_rfl) (by kernel_rfl) (by intro _ _ _ h; exact h) (Or.inl ⟨by rfl, ?_⟩) (by assumption) ?_
              rotate_left 1
              · (intro w' hSw; (try dsimp only at hSw); go_simp; (try (with_reducible rfl)))
              try simp only [Act.put, List.setIfInBounds_toArray, List.set_cons_zero, List.set_cons_succ]
              refine wpAnyH_ready (rs := [22]) (by kernel_rfl) (by simp) ?_
              refine AllReadyH.cons (by simp only [List.getElem?_toArray, List.getElem?_cons_zero, List.getElem?_cons_succ]; rfl) (fun K hK => ?_) AllReadyH.nil
              go_simp
              go_at_call 43
              refine Calls.mono (hdr _) ?_; rintro e W6 ⟨rfl, b6⟩
              refine hK.out _ _ (held6 hgq hTq (by assumption) b6) (fun hHeld => ?_)
              clear hK K
              try simp only [Act.put, List.setIfInBounds_toArray, List.set_cons_zero, List.set_cons_succ]
              refine wpAnyH_take (i := 23) (v := ?_) (by simp only [List.getElem?_toArray, List.getElem?_cons_zero, List.getElem?_cons_succ]; rfl) (by kernel_rfl) (by kernel_rfl) (by kernel_rfl) (by intro _ _ _ h; exact h) (Or.inl ⟨by rfl, ?_⟩) (by assumption) ?_
              rotate_left 1
              · (intro w' hSw; (try dsimp only at hSw); go_simp; (try (with_reducible rfl)))
              try simp only [Act.put, List.setIfInBounds_toArray, List.set_cons_zero, List.set_cons_succ]
              refine wpAnyH_take (i := 24) (v := ?_) (by simp only [List.getElem?_toArray, List.getElem?_cons_zero, List.getElem?_cons_succ]; rfl) (by kernel_rfl) (by kernel_rfl) (by kernel_rfl) (by intro _ _ _ h; exact h) (Or.inl ⟨by rfl, ?_⟩) (by assumption) ?_
              rotate_left 1
              · (intro w' hSw; (try dsimp only at hSw); go_simp; (try (with_reducible rfl)))
              try simp only [Act.put, List.setIfInBounds_toArray, List.set_cons_zero, List.set_cons_succ]
              refine wpAnyH_take (i := 25) (v := ?_) (by simp only [List.getElem?_toArray, List.getElem?_cons_zero, List.getElem?_cons_succ]; rfl) (by kernel_rfl) (by kernel_rfl) (by kernel_rfl) (by intro _ _ _ h; exact h) (Or.inl ⟨by rfl, ?_⟩) (by assumption) ?_
              rotate_left 1
              · (intro w' hSw; (try dsimp only at hSw); go_simp; (try (with_reducible rfl)))
              try simp only [Act.put, List.setIfInBounds_toArray, List.set_cons_zero, List.set_cons_succ]
              refine wpAnyH_done (by kernel_rfl) ?_ _
              have hnum : z1 = (indexZ x D u fr : Nat) ∧ z2 = 0 := by
                have h := HPP.out
                rw [if_neg hgo] at h
                rw [h] at HZ1 HZ2
                exact ⟨HZ1.out.symm, HZ2.out.symm⟩
              have HN1 := Lib.hid hnum.1
              have HN2 := Lib.hid hnum.2
              obtain ⟨q2, q3, k0, k1, k2, k3, hbW⟩ := hHeld
              have hbF := bthen hbQ hbW
              have hgW : g < W6.heap.size := by have := hbW.size; omega
              have hTW : T6 < W6.heap.size := by have := hbW.size; omega
              clear hnum HZ1 HZ2 HPP
              have hds := dropped_succ x
              have hd0 := dropped_zero x
              have hsk2 : ∀ j, (if j % 10 = 0 then 0 else d) = skipZ x j := fun j => by rw [← HDR.out]; rfl
              have hil := (index_last HX.out (m := D) (s := u) (f := fr) l3).1
              have hmin : x.minute = 60 * c := by rw [← HC.out]; rfl
              have hdrk := fun j W (h : j ≤ 100000000) => rdropped_any a b c d j W h
              have HSK2 := HSK.out
              have xc2 : 24 ≤ c := by rw [← HC.out]; exact x5
              rw [HC.out, HSK2] at hil
              generalize droppedZ x = dz at hds hd0 hil
              generalize skipZ x = skf at hds hsk2 HSK
              generalize x.minute = M at hil hmin
              obtain ⟨I, hI⟩ : ∃ I, indexZ x D u fr = I := ⟨_, rfl⟩
              rw [hI] at hil HN1
              have hM9 : M ≤ 3600 := by omega
              have w60 : IntKind.i64.wrap (60 * (c : Int)) = (M : Int) := by rw [w64 (by omega) (by omega)]; omega
              have HM := Lib.hid hmin
              have HIL := Lib.hid hil
              have HDS := Lib.hid hds
              have HD0 := Lib.hid hd0
              have HS2 := Lib.hid hsk2
              clear hmin hil hds hd0 hsk2 HSK2 hI
              go_wp2_with fail
              go_loopw [11, 12] (fun nv mv wr => ∃ k nn : Nat, mv = .int .i64 k ∧ nv = .int .i64 nn ∧ k ≤ D ∧ Hid (nn + dz k = k * M) ∧ nn ≤ 5184000 ∧ Below W6.heap.size W6 wr) (fun _ j _ => D - (intOf j).toNat)
              case atStart => exact ⟨0, 0, rfl, rfl, by omega, Lib.hid (by rw [HD0.out]; simp), by omega, Below.refl _ _⟩
              case round =>
                obtain ⟨k, nn, rfl, rfl, hk, HK, hnn, hB⟩ := hrel
                obtain ⟨r0, r1, r2, r3⟩ := keep4' k0 k1 k2 k3 hB hTW
                have hsr := hB.size
                have hTr : T6 < wr.heap.size := by omega
                have hgr : g < wr.heap.size := by omega
                by_cases hkD : k < D
                · have hkDi : (k : Int) < (D : Int) := by omega
                  have hds' := HDS.out k
                  have hdr' := fun W => hdrk k W (by omega)
                  rw [HS2.out k] at hdr'
                  have hs4 : skf k ≤ 4 := by rw [← HS2.out]; split <;> omega
                  obtain ⟨s', hs'⟩ : ∃ s', skf k = s' := ⟨_, rfl⟩
                  rw [hs'] at hdr' hds' hs4
                  have hM2 := HM.out
                  obtain ⟨N1, hN1⟩ : ∃ N1, nn + M = N1 := ⟨_, rfl⟩
                  obtain ⟨N2, hN2⟩ : ∃ N2, N1 - s' = N2 := ⟨_, rfl⟩
                  have e1 : IntKind.i64.wrap ((nn : Int) + (M : Int)) = (N1 : Int) := by rw [w64 (by omega) (by omega)]; omega
                  have e2 : IntKind.i64.wrap ((N1 : Int) - (s' : Int)) = (N2 : Int) := by rw [w64 (by omega) (by omega)]; omega
                  have hnext : N2 + dz (k + 1) = (k + 1) * M := by rw [hds', Nat.succ_mul, ← HK.out]; omega
                  have hN2le : N2 ≤ 5184000 := by have := Nat.mul_le_mul (show k + 1 ≤ 1440 by omega) hM9; omega
                  have HNX := Lib.hid hnext
                  have HV := Lib.hid (show (N2 : Int) = (nn : Int) + 60 * (c : Int) - (s' : Int) by omega)
                  have hS4 : wr.drew.cell? ⟨T6, 0, none⟩ = some (iv a) ∧ wr.drew.cell? ⟨T6, 1, none⟩ = some (iv b) ∧ wr.drew.cell? ⟨T6, 2, none⟩ = some (iv c) ∧ wr.drew.cell? ⟨T6, 3, none⟩ = some (iv d) ∧ Below wr.heap.size wr wr.drew := ⟨r0, r1, r2, r3, (Below.refl _ wr).drew⟩
                  clear hds' hnext hs' hM2 hN1 hN2 hdrk hdr
                  go_wp2_with fail
                  go_region_held3 (fun w' => w'.cell? ⟨T6, 0, none⟩ = some (iv a) ∧ w'.cell? ⟨T6, 1, none⟩ = some (iv b) ∧ w'.cell? ⟨T6, 2, none⟩ = some (iv c) ∧ w'.cell? ⟨T6, 3, none⟩ = some (iv d) ∧ Below wr.heap.size wr w') (first | assumption | exact hS4 | exact held4 hTr (by assumption) b7 | fail)
                    (first | (go_at_call 43; with_reducible refine Calls.mono (hdr' _) ?_; rintro e w7 ⟨rfl, b7⟩) | fail)
                  all_goals
                    have hS7 := (show w7.cell? ⟨T6, 0, none⟩ = some (iv a) ∧ w7.cell? ⟨T6, 1, none⟩ = some (iv b) ∧ w7.cell? ⟨T6, 2, none⟩ = some (iv c) ∧ w7.cell? ⟨T6, 3, none⟩ = some (iv d) ∧ Below wr.heap.size wr w7 by assumption)
                    go_wp2_with fail
                    go_roundw
                    case rel => exact ⟨k + 1, N2, by go_num, by first | rfl | exact congrArg (Value.int IntKind.i64) (by have := HV.out; omega), by omega, HNX.out, hN2le, bthen hB hS7.2.2.2.2⟩
                    case measure => simp [intOf]; omega
                · have hkD2 : k = D := by omega
                  have hkDi : ¬ (k : Int) < (D : Int) := by omega
                  have hnD : nn + dz D = D * M := by rw [← hkD2]; exact HK.out
                  have q2 := (hB.cell (p := ⟨g, 2, none⟩) hgW).trans q2
                  have q3 := (hB.cell (p := ⟨g, 3, none⟩) hgW).trans q3
                  have hil := HIL.out
                  obtain ⟨U, hU⟩ : ∃ U, u * c = U := ⟨_, rfl⟩
                  have hU9 : U ≤ 6000 := by rw [← hU]; exact Nat.le_trans (Nat.mul_le_mul (show u ≤ 100 by omega) (show c ≤ 60 by omega)) (by decide)
                  rw [hU] at hil
                  have hIv : (I : Int) = (nn : Int) + (U : Int) + (fr : Int) - (sk : Int) := by rw [← hnD] at hil; omega
                  have e1 : IntKind.i64.wrap ((u : Int) * (c : Int)) = (U : Int) := by rw [← Int.natCast_mul, hU, w64 (by omega) (by omega)]
                  have e2 : IntKind.i64.wrap ((nn : Int) + (U : Int)) = (nn : Int) + (U : Int) := w64 (by omega) (by omega)
                  have e3 : IntKind.i64.wrap ((nn : Int) + (U : Int) + (fr : Int)) = (nn : Int) + (U : Int) + (fr : Int) := w64 (by omega) (by omega)
                  have e4 : IntKind.i64.wrap ((nn : Int) + (U : Int) + (fr : Int) - (sk : Int)) = (nn : Int) + (U : Int) + (fr : Int) - (sk : Int) := w64 (by omega) (by omega)
                  have HIV := Lib.hid hIv
                  have HUU := Lib.hid hU
                  have hS6 : wr.drew.cell? ⟨g, 2, none⟩ = some (iv u) ∧ wr.drew.cell? ⟨g, 3, none⟩ = some (iv fr) ∧ wr.drew.cell? ⟨T6, 0, none⟩ = some (iv a) ∧ wr.drew.cell? ⟨T6, 1, none⟩ = some (iv b) ∧ wr.drew.cell? ⟨T6, 2, none⟩ = some (iv c) ∧ wr.drew.cell? ⟨T6, 3, none⟩ = some (iv d) ∧ Below wr.heap.size wr wr.drew := ⟨q2, q3, r0, r1, r2, r3, (Below.refl _ wr).drew⟩
                  clear hil hIv hU hnD hkD2
                  go_wp2_with fail
                  go_region_held3 (fun w' => w'.cell? ⟨g, 2, none⟩ = some (iv u) ∧ w'.cell? ⟨g, 3, none⟩ = some (iv fr) ∧ w'.cell? ⟨T6, 0, none⟩ = some (iv a) ∧ w'.cell? ⟨T6, 1, none⟩ = some (iv b) ∧ w'.cell? ⟨T6, 2, none⟩ = some (iv c) ∧ w'.cell? ⟨T6, 3, none⟩ = some (iv d) ∧ Below wr.heap.size wr w') (first | assumption | exact hS6 | exact held6 hgr hTr (by assumption) b7 | fail)
                    (first | (go_at_call 43; with_reducible refine Calls.mono (hdr _) ?_; rintro e w7 ⟨rfl, b7⟩) | fail)
                  all_goals
                    have hS7 := (show w7.cell? ⟨g, 2, none⟩ = some (iv u) ∧ w7.cell? ⟨g, 3, none⟩ = some (iv fr) ∧ w7.cell? ⟨T6, 0, none⟩ = some (iv a) ∧ w7.cell? ⟨T6, 1, none⟩ = some (iv b) ∧ w7.cell? ⟨T6, 2, none⟩ = some (iv c) ∧ w7.cell? ⟨T6, 3, none⟩ = some (iv d) ∧ Below wr.heap.size wr w7 by assumption)
                    go_wp2_with fail
                    go_ret2
                    exact ⟨by rw [HN1.out, HN2.out, HIV.out]; rfl, bthen (bthen hbF hB) hS7.2.2.2.2.2.2⟩
          · have u1 : ((u : Int) == 0) = false := by rw [beq_eq_false_iff_ne]; omega
            have u2 : (u == 0) = false := by rw [beq_eq_false_iff_ne]; omega
            have hgo : ¬ (u = 0 ∧ fr < sk) := fun h => hu h.1
            clear hu
            refine wp_region_held_drew (S := (fun w' => w'.cell? ⟨g, 2, none⟩ = some (iv u) ∧ w'.cell? ⟨g, 3, none⟩ = some (iv fr) ∧ w'.cell? ⟨T6, 0, none⟩ = some (iv a) ∧ w'.cell? ⟨T6, 1, none⟩ = some (iv b) ∧ w'.cell? ⟨T6, 2, none⟩ = some (iv c) ∧ w'.cell? ⟨T6, 3, none⟩ = some (iv d) ∧ Below wp.heap.size wp w')) (by kernel_rfl) hS0 (fun hHeld => ?_)
            refine wpAnyH_take (i := 0) (v := ?_) (by simp only [List.getElem?_toArray, List.getElem?_cons_zero, List.getElem?_cons_succ]; rfl) (by kernel_rfl) (by kernel_rfl) (by kernel_rfl) (by intro _ _ _ h; exact h) (Or.inl ⟨by rfl, ?_⟩) (by assumption) ?_
            rotate_left 1
            · (intro w' hSw; (try dsimp only at hSw); go_simp; (try (with_reducible rfl)))
            try simp only [Act.put, List.setIfInBounds_toArray, List.set_cons_zero, List.set_cons_succ]
            refine wpAnyH_take (i := 1) (v := ?_) (by simp only [List.getElem?_toArray, List.getElem?_cons_zero, List.getElem?_cons_succ]; rfl) (by kernel_rfl) (by kernel_rfl) (by kernel_rfl) (by intro _ _ _ h; exact h) (Or.inl ⟨by rfl, ?_⟩) (by assumption) ?_
            rotate_left 1
            · (intro w' hSw; (try dsimp only at hSw); go_simp; (try (with_reducible rfl)))
            try simp only [Act.put, List.setIfInBounds_toArray, List.set_cons_zero, List.set_cons_succ]
            refine wpAnyH_take (i := 2) (v := ?_) (by simp only [List.getElem?_toArray, List.getElem?_cons_zero, List.getElem?_cons_succ]; rfl) (by kernel_rfl) (by kernel_rfl) (by kernel_rfl) (by intro _ _ _ h; exact h) (Or.inl ⟨by rfl, ?_⟩) (by assumption) ?_
            rotate_left 1
            · (intro w' hSw; (try dsimp only at hSw); go_simp; (try (with_reducible rfl)))
            try simp only [Act.put, List.setIfInBounds_toArray, List.set_cons_zero, List.set_cons_succ]
            refine wpAnyH_take (i := 3) (v := ?_) (by simp only [List.getElem?_toArray, List.getElem?_cons_zero, List.getElem?_cons_succ]; rfl) (by kernel_rfl) (by kernel_rfl) (by kernel_rfl) (by intro _ _ _ h; exact h) (Or.inl ⟨by rfl, ?_⟩) (by assumption) ?_
            rotate_left 1
            · (intro w' hSw; (try dsimp only at hSw); go_simp; (try (with_reducible rfl)))
            try simp only [Act.put, List.setIfInBounds_toArray, List.set_cons_zero, List.set_cons_succ]
            refine wpAnyH_take (i := 4) (v := ?_) (by simp only [List.getElem?_toArray, List.getElem?_cons_zero, List.getElem?_cons_succ]; rfl) (by kernel_rfl) (by kernel_rfl) (by kernel_rfl) (by intro _ _ _ h; exact h) (Or.inl ⟨by rfl, ?_⟩) (by assumption) ?_
            rotate_left 1
            · (intro w' hSw; (try dsimp only at hSw); go_simp; (try (with_reducible rfl)))
            try simp only [Act.put, List.setIfInBounds_toArray, List.set_cons_zero, List.set_cons_succ]
            refine wpAnyH_take (i := 5) (v := ?_) (by simp only [List.getElem?_toArray, List.getElem?_cons_zero, List.getElem?_cons_succ]; rfl) (by kernel_rfl) (by kernel_rfl) (by kernel_rfl) (by intro _ _ _ h; exact h) (Or.inl ⟨by rfl, ?_⟩) (by assumption) ?_
            rotate_left 1
            · (intro w' hSw; (try dsimp only at hSw); go_simp; (try (with_reducible rfl)))
            try simp only [Act.put, List.setIfInBounds_toArray, List.set_cons_zero, List.set_cons_succ]
            refine wpAnyH_take (i := 6) (v := ?_) (by simp only [List.getElem?_toArray, List.getElem?_cons_zero, List.getElem?_cons_succ]; rfl) (by kernel_rfl) (by kernel_rfl) (by kernel_rfl) (by intro _ _ _ h; exact h) (Or.inl ⟨by rfl, ?_⟩) (by assumption) ?_
            rotate_left 1
            · (intro w' hSw; (try dsimp only at hSw); go_simp; (try (with_reducible rfl)))
            try simp only [Act.put, List.setIfInBounds_toArray, List.set_cons_zero, List.set_cons_succ]
            refine wpAnyH_take (i := 7) (v := ?_) (by simp only [List.getElem?_toArray, List.getElem?_cons_zero, List.getElem?_cons_succ]; rfl) (by kernel_rfl) (by kernel_rfl) (by kernel_rfl) (by intro _ _ _ h; exact h) (Or.inl ⟨by rfl, ?_⟩) (by assumption) ?_
            rotate_left 1
            · (intro w' hSw; (try dsimp only at hSw); go_simp; (try (with_reducible rfl)))
            try simp only [Act.put, List.setIfInBounds_toArray, List.set_cons_zero, List.set_cons_succ]
            refine wpAnyH_take (i := 9) (v := ?_) (by simp only [List.getElem?_toArray, List.getElem?_cons_zero, List.getElem?_cons_succ]; rfl) (by kernel_rfl) (by kernel_rfl) (by kernel_rfl) (by intro _ _ _ h; exact h) (Or.inl ⟨by rfl, ?_⟩) (by assumption) ?_
            rotate_left 1
            · (intro w' hSw; (try dsimp only at hSw); go_simp; (try (with_reducible rfl)))
            try simp only [Act.put, List.setIfInBounds_toArray, List.set_cons_zero, List.set_cons_succ]
            refine wpAnyH_ready (rs := [8]) (by kernel_rfl) (by simp) ?_
            refine AllReadyH.cons (by simp only [List.getElem?_toArray, List.getElem?_cons_zero, List.getElem?_cons_succ]; rfl) (fun K hK => ?_) AllReadyH.nil
            go_simp
            go_at_call 44
            refine Calls.mono (hTx _) ?_; rintro e W5 ⟨rfl, b5⟩
            refine hK.out _ _ (held6 hgq hTq (by assumption) b5) (fun hHeld => ?_)
            clear hK K
            try simp only [Act.put, List.setIfInBounds_toArray, List.set_cons_zero, List.set_cons_succ]
            refine wpAnyH_take (i := 10) (v := ?_) (by simp only [List.getElem?_toArray, List.getElem?_cons_zero, List.getElem?_cons_succ]; rfl) (by kernel_rfl) (by kernel_rfl) (by kernel_rfl) (by intro _ _ _ h; exact h) (Or.inl ⟨by rfl, ?_⟩) (by assumption) ?_
            rotate_left 1
            · (intro w' hSw; (try dsimp only at hSw); go_simp; (try (with_reducible rfl)))
            try simp only [Act.put, List.setIfInBounds_toArray, List.set_cons_zero, List.set_cons_succ]
            refine wpAnyH_take (i := 11) (v := ?_) (by simp only [List.getElem?_toArray, List.getElem?_cons_zero, List.getElem?_cons_succ]; rfl) (by kernel_rfl) (by kernel_rfl) (by kernel_rfl) (by intro _ _ _ h; exact h) (Or.inl ⟨by rfl, ?_⟩) (by assumption) ?_
            rotate_left 1
            · (intro w' hSw; (try dsimp only at hSw); go_simp; (try (with_reducible rfl)))
            try simp only [Act.put, List.setIfInBounds_toArray, List.set_cons_zero, List.set_cons_succ]
            refine wpAnyH_take (i := 12) (v := ?_) (by simp only [List.getElem?_toArray, List.getElem?_cons_zero, List.getElem?_cons_succ]; rfl) (by kernel_rfl) (by kernel_rfl) (by kernel_rfl) (by intro _ _ _ h; exact h) (Or.inl ⟨by rfl, ?_⟩) (by assumption) ?_
            rotate_left 1
            · (intro w' hSw; (try dsimp only at hSw); go_simp; (try (with_reducible rfl)))
            try simp only [Act.put, List.setIfInBounds_toArray, List.set_cons_zero, List.set_cons_succ]
            refine wpAnyH_take (i := 13) (v := ?_) (by simp only [List.getElem?_toArray, List.getElem?_cons_zero, List.getElem?_cons_succ]; rfl) (by kernel_rfl) (by kernel_rfl) (by kernel_rfl) (by intro _ _ _ h; exact h) (Or.inl ⟨by rfl, ?_⟩) (by assumption) ?_
            rotate_left 1
            · (intro w' hSw; (try dsimp only at hSw); go_simp; (try (with_reducible rfl)))
            try simp only [Act.put, List.setIfInBounds_toArray, List.set_cons_zero, List.set_cons_succ]
            refine wpAnyH_take (i := 14) (v := ?_) (by simp only [List.getElem?_toArray, List.getElem?_cons_zero, List.getElem?_cons_succ]; rfl) (by kernel_rfl) (by kernel_rfl) (by kernel_rfl) (by intro _ _ _ h; exact h) (Or.inl ⟨by rfl, ?_⟩) (by assumption) ?_
            rotate_left 1
            · (intro w' hSw; (try dsimp only at hSw); go_simp; (try (with_reducible rfl)))
            try simp only [Act.put, List.setIfInBounds_toArray, List.set_cons_zero, List.set_cons_succ]
            refine wpAnyH_take (i := 15) (v := ?_) (by simp only [List.getElem?_toArray, List.getElem?_cons_zero, List.getElem?_cons_succ]; rfl) (by kernel_rfl) (by kernel_rfl) (by kernel_rfl) (by intro _ _ _ h; exact h) (Or.inl ⟨by rfl, ?_⟩) (by assumption) ?_
            rotate_left 1
            · (intro w' hSw; (try dsimp only at hSw); go_simp; (try (with_reducible rfl)))
            try simp only [Act.put, List.setIfInBounds_toArray, List.set_cons_zero, List.set_cons_succ]
            refine wpAnyH_take (i := 16) (v := ?_) (by simp only [List.getElem?_toArray, List.getElem?_cons_zero, List.getElem?_cons_succ]; rfl) (by kernel_rfl) (by kernel_rfl) (by kernel_rfl) (by intro _ _ _ h; exact h) (Or.inl ⟨by rfl, ?_⟩) (by assumption) ?_
            rotate_left 1
            · (intro w' hSw; (try dsimp only at hSw); go_simp; (try (with_reducible rfl)))
            try simp only [Act.put, List.setIfInBounds_toArray, List.set_cons_zero, List.set_cons_succ]
            refine wpAnyH_take (i := 17) (v := undef) (by simp only [List.getElem?_toArray, List.getElem?_cons_zero, List.getElem?_cons_succ]; rfl) (by kernel_rfl) (by kernel_rfl) (by kernel_rfl) (by intro _ _ _ h; exact h) (Or.inr ⟨by rfl, rfl⟩) (by assumption) ?_
            try simp only [Act.put, List.setIfInBounds_toArray, List.set_cons_zero, List.set_cons_succ]
            refine wpAnyH_take (i := 18) (v := undef) (by simp only [List.getElem?_toArray, List.getElem?_cons_zero, List.getElem?_cons_succ]; rfl) (by kernel_rfl) (by kernel_rfl) (by kernel_rfl) (by intro _ _ _ h; exact h) (Or.inr ⟨by rfl, rfl⟩) (by assumption) ?_
            try simp only [Act.put, List.setIfInBounds_toArray, List.set_cons_zero, List.set_cons_succ]
            refine wpAnyH_take (i := 19) (v := undef) (by simp only [List.getElem?_toArray, List.getElem?_cons_zero, List.getElem?_cons_succ]; rfl) (by kernel_rfl) (by kernel_rfl) (by kernel_rfl) (by intro _ _ _ h; exact h) (Or.inr ⟨by rfl, rfl⟩) (by assumption) ?_
            try simp only [Act.put, List.setIfInBounds_toArray, List.set_cons_zero, List.set_cons_succ]
            refine wpAnyH_take (i := 20) (v := undef) (by simp only [List.getElem?_toArray, List.getElem?_cons_zero, List.getElem?_cons_succ]; rfl) (by kernel_rfl) (by kernel_rfl) (by kernel_rfl) (by intro _ _ _ h; exact h) (Or.inr ⟨by rfl, rfl⟩) (by assumption) ?_
            try simp only [Act.put, List.setIfInBounds_toArray, List.set_cons_zero, List.set_cons_succ]
            refine wpAnyH_take (i := 21) (v := undef) (by simp only [List.getElem?_toArray, List.getElem?_cons_zero, List.getElem?_cons_succ]; rfl) (by kernel_rfl) (by kernel_rfl) (by kernel_rfl) (by intro _ _ _ h; exact h) (Or.inr ⟨by rfl, rfl⟩) (by assumption) ?_
            try simp only [Act.put, List.setIfInBounds_toArray, List.set_cons_zero, List.set_cons_succ]
            refine wpAnyH_take (i := 22) (v := undef) (by simp only [List.getElem?_toArray, List.getElem?_cons_zero, List.getElem?_cons_succ]; rfl) (by kernel_rfl) (by kernel_rfl) (by kernel_rfl) (by intro _ _ _ h; exact h) (Or.inr ⟨by rfl, rfl⟩) (by assumption) ?_
            try simp only [Act.put, List.setIfInBounds_toArray, List.set_cons_zero, List.set_cons_succ]
            refine wpAnyH_take (i := 23) (v := undef) (by simp only [List.getElem?_toArray, List.getElem?_cons_zero, List.getElem?_cons_succ]; rfl) (by kernel_rfl) (by kernel_rfl) (by kernel_rfl) (by intro _ _ _ h; exact h) (Or.inr ⟨by rfl, rfl⟩) (by assumption) ?_
            try simp only [Act.put, List.setIfInBounds_toArray, List.set_cons_zero, List.set_cons_succ]
            refine wpAnyH_take (i := 24) (v := ?_) (by simp only [List.getElem?_toArray, List.getElem?_cons_zero, List.getElem?_cons_succ]; rfl) (by kernel_rfl) (by kernel_rfl) (by kernel_rfl) (by intro _ _ _ h; exact h) (Or.inl ⟨by rfl, ?_⟩) (by assumption) ?_
            rotate_left 1
            · (intro w' hSw; (try dsimp only at hSw); go_simp; (try (with_reducible rfl)))
            try simp only [Act.put, List.setIfInBounds_toArray, List.set_cons_zero, List.set_cons_succ]
            refine wpAnyH_take (i := 25) (v := ?_) (by simp only [List.getElem?_toArray, List.getElem?_cons_zero, List.getElem?_cons_succ]; rfl) (by kernel_rfl) (by kernel_rfl) (by kernel_rfl) (by intro _ _ _ h; exact h) (Or.inl ⟨by rfl, ?_⟩) (by assumption) ?_
            rotate_left 1
            · (intro w' hSw; (try dsimp only at hSw); go_simp; (try (with_reducible rfl)))
            try simp only [Act.put, List.setIfInBounds_toArray, List.set_cons_zero, List.set_cons_succ]
            refine wpAnyH_done (by kernel_rfl) ?_ _
            have hnum : z1 = (indexZ x D u fr : Nat) ∧ z2 = 0 := by
              have h := HPP.out
              rw [if_neg hgo] at h
              rw [h] at HZ1 HZ2
              exact ⟨HZ1.out.symm, HZ2.out.symm⟩
            have HN1 := Lib.hid hnum.1
            have HN2 := Lib.hid hnum.2
            obtain ⟨q2, q3, k0, k1, k2, k3, hbW⟩ := hHeld
            have hbF := bthen hbQ hbW
            have hgW : g < W5.heap.size := by have := hbW.size; omega
            have hTW : T6 < W5.heap.size := by have := hbW.size; omega
            clear hnum HZ1 HZ2 HPP
            have hds := dropped_succ x
            have hd0 := dropped_zero x
            have hsk2 : ∀ j, (if j % 10 = 0 then 0 else d) = skipZ x j := fun j => by rw [← HDR.out]; rfl
            have hil := (index_last HX.out (m := D) (s := u) (f := fr) l3).1
            have hmin : x.minute = 60 * c := by rw [← HC.out]; rfl
            have hdrk := fun j W (h : j ≤ 100000000) => rdropped_any a b c d j W h
            have HSK2 := HSK.out
            have xc2 : 24 ≤ c := by rw [← HC.out]; exact x5
            rw [HC.out, HSK2] at hil
            generalize droppedZ x = dz at hds hd0 hil
            generalize skipZ x = skf at hds hsk2 HSK
            generalize x.minute = M at hil hmin
            obtain ⟨I, hI⟩ : ∃ I, indexZ x D u fr = I := ⟨_, rfl⟩
            rw [hI] at hil HN1
            have hM9 : M ≤ 3600 := by omega
            have w60 : IntKind.i64.wrap (60 * (c : Int)) = (M : Int) := by rw [w64 (by omega) (by omega)]; omega
            have HM := Lib.hid hmin
            have HIL := Lib.hid hil
            have HDS := Lib.hid hds
            have HD0 := Lib.hid hd0
            have HS2 := Lib.hid hsk2
            clear hmin hil hds hd0 hsk2 HSK2 hI
            go_wp2_with fail
            go_loopw [11, 12] (fun nv mv wr => ∃ k nn : Nat, mv = .int .i64 k ∧ nv = .int .i64 nn ∧ k ≤ D ∧ Hid (nn + dz k = k * M) ∧ nn ≤ 5184000 ∧ Below W5.heap.size W5 wr) (fun _ j _ => D - (intOf j).toNat)
            case atStart => exact ⟨0, 0, rfl, rfl, by omega, Lib.hid (by rw [HD0.out]; simp), by omega, Below.refl _ _⟩
            case round =>
              obtain ⟨k, nn, rfl, rfl, hk, HK, hnn, hB⟩ := hrel
              obtain ⟨r0, r1, r2, r3⟩ := keep4' k0 k1 k2 k3 hB hTW
              have hsr := hB.size
              have hTr : T6 < wr.heap.size := by omega
              have hgr : g < wr.heap.size := by omega
              by_cases hkD : k < D
              · have hkDi : (k : Int) < (D : Int) := by omega
                have hds' := HDS.out k
                have hdr' := fun W => hdrk k W (by omega)
                rw [HS2.out k] at hdr'
                have hs4 : skf k ≤ 4 := by rw [← HS2.out]; split <;> omega
                obtain ⟨s', hs'⟩ : ∃ s', skf k = s' := ⟨_, rfl⟩
                rw [hs'] at hdr' hds' hs4
                have hM2 := HM.out
                obtain ⟨N1, hN1⟩ : ∃ N1, nn + M = N1 := ⟨_, rfl⟩
                obtain ⟨N2, hN2⟩ : ∃ N2, N1 - s' = N2 := ⟨_, rfl⟩
                have e1 : IntKind.i64.wrap ((nn : Int) + (M : Int)) = (N1 : Int) := by rw [w64 (by omega) (by omega)]; omega
                have e2 : IntKind.i64.wrap ((N1 : Int) - (s' : Int)) = (N2 : Int) := by rw [w64 (by omega) (by omega)]; omega
                have hnext : N2 + dz (k + 1) = (k + 1) * M := by rw [hds', Nat.succ_mul, ← HK.out]; omega
                have hN2le : N2 ≤ 5184000 := by have := Nat.mul_le_mul (show k + 1 ≤ 1440 by omega) hM9; omega
                have HNX := Lib.hid hnext
                have HV := Lib.hid (show (N2 : Int) = (nn : Int) + 60 * (c : Int) - (s' : Int) by omega)
                have hS4 : wr.drew.cell? ⟨T6, 0, none⟩ = some (iv a) ∧ wr.drew.cell? ⟨T6, 1, none⟩ = some (iv b) ∧ wr.drew.cell? ⟨T6, 2, none⟩ = some (iv c) ∧ wr.drew.cell? ⟨T6, 3, none⟩ = some (iv d) ∧ Below wr.heap.size wr wr.drew := ⟨r0, r1, r2, r3, (Below.refl _ wr).drew⟩
                clear hds' hnext hs' hM2 hN1 hN2 hdrk hdr
                go_wp2_with fail
                go_region_held3 (fun w' => w'.cell? ⟨T6, 0, none⟩ = some (iv a) ∧ w'.cell? ⟨T6, 1, none⟩ = some (iv b) ∧ w'.cell? ⟨T6, 2, none⟩ = some (iv c) ∧ w'.cell? ⟨T6, 3, none⟩ = some (iv d) ∧ Below wr.heap.size wr w') (first | assumption | exact hS4 | exact held4 hTr (by assumption) b7 | fail)
                  (first | (go_at_call 43; with_reducible refine Calls.mono (hdr' _) ?_; rintro e w7 ⟨rfl, b7⟩) | fail)
                all_goals
                  have hS7 := (show w7.cell? ⟨T6, 0, none⟩ = some (iv a) ∧ w7.cell? ⟨T6, 1, none⟩ = some (iv b) ∧ w7.cell? ⟨T6, 2, none⟩ = some (iv c) ∧ w7.cell? ⟨T6, 3, none⟩ = some (iv d) ∧ Below wr.heap.size wr w7 by assumption)
                  go_wp2_with fail
                  go_roundw
                  case rel => exact ⟨k + 1, N2, by go_num, by first | rfl | exact congrArg (Value.int IntKind.i64) (by have := HV.out; omega), by omega, HNX.out, hN2le, bthen hB hS7.2.2.2.2⟩
                  case measure => simp [intOf]; omega
              · have hkD2 : k = D := by omega
                have hkDi : ¬ (k : Int) < (D : Int) := by omega
                have hnD : nn + dz D = D * M := by rw [← hkD2]; exact HK.out
                have q2 := (hB.cell (p := ⟨g, 2, none⟩) hgW).trans q2
                have q3 := (hB.cell (p := ⟨g, 3, none⟩) hgW).trans q3
                have hil := HIL.out
                obtain ⟨U, hU⟩ : ∃ U, u * c = U := ⟨_, rfl⟩
                have hU9 : U ≤ 6000 := by rw [← hU]; exact Nat.le_trans (Nat.mul_le_mul (show u ≤ 100 by omega) (show c ≤ 60 by omega)) (by decide)
                rw [hU] at hil
                have hIv : (I : Int) = (nn : Int) + (U : Int) + (fr : Int) - (sk : Int) := by rw [← hnD] at hil; omega
                have e1 : IntKind.i64.wrap ((u : Int) * (c : Int)) = (U : Int) := by rw [← Int.natCast_mul, hU, w64 (by omega) (by omega)]
                have e2 : IntKind.i64.wrap ((nn : Int) + (U : Int)) = (nn : Int) + (U : Int) := w64 (by omega) (by omega)
                have e3 : IntKind.i64.wrap ((nn : Int) + (U : Int) + (fr : Int)) = (nn : Int) + (U : Int) + (fr : Int) := w64 (by omega) (by omega)
                have e4 : IntKind.i64.wrap ((nn : Int) + (U : Int) + (fr : Int) - (sk : Int)) = (nn : Int) + (U : Int) + (fr : Int) - (sk : Int) := w64 (by omega) (by omega)
                have HIV := Lib.hid hIv
                have HUU := Lib.hid hU
                have hS6 : wr.drew.cell? ⟨g, 2, none⟩ = some (iv u) ∧ wr.drew.cell? ⟨g, 3, none⟩ = some (iv fr) ∧ wr.drew.cell? ⟨T6, 0, none⟩ = some (iv a) ∧ wr.drew.cell? ⟨T6, 1, none⟩ = some (iv b) ∧ wr.drew.cell? ⟨T6, 2, none⟩ = some (iv c) ∧ wr.drew.cell? ⟨T6, 3, none⟩ = some (iv d) ∧ Below wr.heap.size wr wr.drew := ⟨q2, q3, r0, r1, r2, r3, (Below.refl _ wr).drew⟩
                clear hil hIv hU hnD hkD2
                go_wp2_with fail
                go_region_held3 (fun w' => w'.cell? ⟨g, 2, none⟩ = some (iv u) ∧ w'.cell? ⟨g, 3, none⟩ = some (iv fr) ∧ w'.cell? ⟨T6, 0, none⟩ = some (iv a) ∧ w'.cell? ⟨T6, 1, none⟩ = some (iv b) ∧ w'.cell? ⟨T6, 2, none⟩ = some (iv c) ∧ w'.cell? ⟨T6, 3, none⟩ = some (iv d) ∧ Below wr.heap.size wr w') (first | assumption | exact hS6 | exact held6 hgr hTr (by assumption) b7 | fail)
                  (first | (go_at_call 43; with_reducible refine Calls.mono (hdr _) ?_; rintro e w7 ⟨rfl, b7⟩) | fail)
                all_goals
                  have hS7 := (show w7.cell? ⟨g, 2, none⟩ = some (iv u) ∧ w7.cell? ⟨g, 3, none⟩ = some (iv fr) ∧ w7.cell? ⟨T6, 0, none⟩ = some (iv a) ∧ w7.cell? ⟨T6, 1, none⟩ = some (iv b) ∧ w7.cell? ⟨T6, 2, none⟩ = some (iv c) ∧ w7.cell? ⟨T6, 3, none⟩ = some (iv d) ∧ Below wr.heap.size wr w7 by assumption)
                  go_wp2_with fail
                  go_ret2
                  exact ⟨by rw [HN1.out, HN2.out, HIV.out]; rfl, bthen (bthen hbF hB) hS7.2.2.2.2.2.2⟩
        · have n1 : (sT.toList == s.toList) = false := by
            rw [beq_eq_false_iff_ne]; intro h; apply hsame; rw [ByteArray.toList_eq, ByteArray.toList_eq] at h
            cases sT; cases s; congr 1; exact Array.toList_inj.1 h
          have n2 : (sT.toList != s.toList) = true := by rw [bne, n1]; rfl
          have hP0 : z1 = 0 ∧ z2 = 30 := by
            have := HVV.out
            rw [if_neg (fun h' => hsame (HST.out.2 h'.2.1))] at this
            rw [this] at HZ1 HZ2
            exact ⟨HZ1.out.symm, HZ2.out.symm⟩
          have H1 := Lib.hid hP0.1
          have H2 := Lib.hid hP0.2
          clear hP0 HZ1 HZ2 HVV HST hsame
          refine wp_region_held_drew (S := (fun w' => w'.cell? ⟨g, 2, none⟩ = some (iv u) ∧ w'.cell? ⟨g, 3, none⟩ = some (iv fr) ∧ w'.cell? ⟨T6, 0, none⟩ = some (iv a) ∧ w'.cell? ⟨T6, 1, none⟩ = some (iv b) ∧ w'.cell? ⟨T6, 2, none⟩ = some (iv c) ∧ w'.cell? ⟨T6, 3, none⟩ = some (iv d) ∧ Below wp.heap.size wp w')) (by kernel_rfl) hS0 (fun hHeld => ?_)
          refine wpAnyH_take (i := 0) (v := ?_) (by simp only [List.getElem?_toArray, List.getElem?_cons_zero, List.getElem?_cons_succ]; rfl) (by kernel_rfl) (by kernel_rfl) (by kernel_rfl) (by intro _ _ _ h; exact h) (Or.inl ⟨by rfl, ?_⟩) (by assumption) ?_
          rotate_left 1
          · (intro w' hSw; (try dsimp only at hSw); go_simp; (try (with_reducible rfl)))
          try simp only [Act.put, List.setIfInBounds_toArray, List.set_cons_zero, List.set_cons_succ]
          refine wpAnyH_take (i := 1) (v := ?_) (by simp only [List.getElem?_toArray, List.getElem?_cons_zero, List.getElem?_cons_succ]; rfl) (by kernel_rfl) (by kernel_rfl) (by kernel_rfl) (by intro _ _ _ h; exact h) (Or.inl ⟨by rfl, ?_⟩) (by assumption) ?_
          rotate_left 1
          · (intro w' hSw; (try dsimp only at hSw); go_simp; (try (with_reducible rfl)))
          try simp only [Act.put, List.setIfInBounds_toArray, List.set_cons_zero, List.set_cons_succ]
          refine wpAnyH_take (i := 2) (v := ?_) (by simp only [List.getElem?_toArray, List.getElem?_cons_zero, List.getElem?_cons_succ]; rfl) (by kernel_rfl) (by kernel_rfl) (by kernel_rfl) (by intro _ _ _ h; exact h) (Or.inl ⟨by rfl, ?_⟩) (by assumption) ?_
          rotate_left 1
          · (intro w' hSw; (try dsimp only at hSw); go_simp; (try (with_reducible rfl)))
          try simp only [Act.put, List.setIfInBounds_toArray, List.set_cons_zero, List.set_cons_succ]
          refine wpAnyH_take (i := 3) (v := ?_) (by simp only [List.getElem?_toArray, List.getElem?_cons_zero, List.getElem?_cons_succ]; rfl) (by kernel_rfl) (by kernel_rfl) (by kernel_rfl) (by intro _ _ _ h; exact h) (Or.inl ⟨by rfl, ?_⟩) (by assumption) ?_
          rotate_left 1
          · (intro w' hSw; (try dsimp only at hSw); go_simp; (try (with_reducible rfl)))
          try simp only [Act.put, List.setIfInBounds_toArray, List.set_cons_zero, List.set_cons_succ]
          refine wpAnyH_take (i := 4) (v := ?_) (by simp only [List.getElem?_toArray, List.getElem?_cons_zero, List.getElem?_cons_succ]; rfl) (by kernel_rfl) (by kernel_rfl) (by kernel_rfl) (by intro _ _ _ h; exact h) (Or.inl ⟨by rfl, ?_⟩) (by assumption) ?_
          rotate_left 1
          · (intro w' hSw; (try dsimp only at hSw); go_simp; (try (with_reducible rfl)))
          try simp only [Act.put, List.setIfInBounds_toArray, List.set_cons_zero, List.set_cons_succ]
          refine wpAnyH_take (i := 5) (v := ?_) (by simp only [List.getElem?_toArray, List.getElem?_cons_zero, List.getElem?_cons_succ]; rfl) (by kernel_rfl) (by kernel_rfl) (by kernel_rfl) (by intro _ _ _ h; exact h) (Or.inl ⟨by rfl, ?_⟩) (by assumption) ?_
          rotate_left 1
          · (intro w' hSw; (try dsimp only at hSw); go_simp; (try (with_reducible rfl)))
          try simp only [Act.put, List.setIfInBounds_toArray, List.set_cons_zero, List.set_cons_succ]
          refine wpAnyH_take (i := 6) (v := ?_) (by simp only [List.getElem?_toArray, List.getElem?_cons_zero, List.getElem?_cons_succ]; rfl) (by kernel_rfl) (by kernel_rfl) (by kernel_rfl) (by intro _ _ _ h; exact h) (Or.inl ⟨by rfl, ?_⟩) (by assumption) ?_
          rotate_left 1
          · (intro w' hSw; (try dsimp only at hSw); go_simp; (try (with_reducible rfl)))
          try simp only [Act.put, List.setIfInBounds_toArray, List.set_cons_zero, List.set_cons_succ]
          refine wpAnyH_take (i := 7) (v := ?_) (by simp only [List.getElem?_toArray, List.getElem?_cons_zero, List.getElem?_cons_succ]; rfl) (by kernel_rfl) (by kernel_rfl) (by kernel_rfl) (by intro _ _ _ h; exact h) (Or.inl ⟨by rfl, ?_⟩) (by assumption) ?_
          rotate_left 1
          · (intro w' hSw; (try dsimp only at hSw); go_simp; (try (with_reducible rfl)))
          try simp only [Act.put, List.setIfInBounds_toArray, List.set_cons_zero, List.set_cons_succ]
          refine wpAnyH_take (i := 9) (v := ?_) (by simp only [List.getElem?_toArray, List.getElem?_cons_zero, List.getElem?_cons_succ]; rfl) (by kernel_rfl) (by kernel_rfl) (by kernel_rfl) (by intro _ _ _ h; exact h) (Or.inl ⟨by rfl, ?_⟩) (by assumption) ?_
          rotate_left 1
          · (intro w' hSw; (try dsimp only at hSw); go_simp; (try (with_reducible rfl)))
          try simp only [Act.put, List.setIfInBounds_toArray, List.set_cons_zero, List.set_cons_succ]
          refine wpAnyH_ready (rs := [8]) (by kernel_rfl) (by simp) ?_
          refine AllReadyH.cons (by simp only [List.getElem?_toArray, List.getElem?_cons_zero, List.getElem?_cons_succ]; rfl) (fun K hK => ?_) AllReadyH.nil
          go_simp
          go_at_call 44
          refine Calls.mono (hTx _) ?_; rintro e W5 ⟨rfl, b5⟩
          refine hK.out _ _ (held6 hgq hTq (by assumption) b5) (fun hHeld => ?_)
          clear hK K
          try simp only [Act.put, List.setIfInBounds_toArray, List.set_cons_zero, List.set_cons_succ]
          refine wpAnyH_take (i := 10) (v := ?_) (by simp only [List.getElem?_toArray, List.getElem?_cons_zero, List.getElem?_cons_succ]; rfl) (by kernel_rfl) (by kernel_rfl) (by kernel_rfl) (by intro _ _ _ h; exact h) (Or.inl ⟨by rfl, ?_⟩) (by assumption) ?_
          rotate_left 1
          · (intro w' hSw; (try dsimp only at hSw); go_simp; (try (with_reducible rfl)))
          try simp only [Act.put, List.setIfInBounds_toArray, List.set_cons_zero, List.set_cons_succ]
          refine wpAnyH_take (i := 11) (v := ?_) (by simp only [List.getElem?_toArray, List.getElem?_cons_zero, List.getElem?_cons_succ]; rfl) (by kernel_rfl) (by kernel_rfl) (by kernel_rfl) (by intro _ _ _ h; exact h) (Or.inl ⟨by rfl, ?_⟩) (by assumption) ?_
          rotate_left 1
          · (intro w' hSw; (try dsimp only at hSw); go_simp; (try (with_reducible rfl)))
          try simp only [Act.put, List.setIfInBounds_toArray, List.set_cons_zero, List.set_cons_succ]
          refine wpAnyH_take (i := 12) (v := undef) (by simp only [List.getElem?_toArray, List.getElem?_cons_zero, List.getElem?_cons_succ]; rfl) (by kernel_rfl) (by kernel_rfl) (by kernel_rfl) (by intro _ _ _ h; exact h) (Or.inr ⟨by rfl, rfl⟩) (by assumption) ?_
          try simp only [Act.put, List.setIfInBounds_toArray, List.set_cons_zero, List.set_cons_succ]
          refine wpAnyH_take (i := 13) (v := undef) (by simp only [List.getElem?_toArray, List.getElem?_cons_zero, List.getElem?_cons_succ]; rfl) (by kernel_rfl) (by kernel_rfl) (by kernel_rfl) (by intro _ _ _ h; exact h) (Or.inr ⟨by rfl, rfl⟩) (by assumption) ?_
          try simp only [Act.put, List.setIfInBounds_toArray, List.set_cons_zero, List.set_cons_succ]
          refine wpAnyH_take (i := 14) (v := undef) (by simp only [List.getElem?_toArray, List.getElem?_cons_zero, List.getElem?_cons_succ]; rfl) (by kernel_rfl) (by kernel_rfl) (by kernel_rfl) (by intro _ _ _ h; exact h) (Or.inr ⟨by rfl, rfl⟩) (by assumption) ?_
          try simp only [Act.put, List.setIfInBounds_toArray, List.set_cons_zero, List.set_cons_succ]
          refine wpAnyH_take (i := 15) (v := undef) (by simp only [List.getElem?_toArray, List.getElem?_cons_zero, List.getElem?_cons_succ]; rfl) (by kernel_rfl) (by kernel_rfl) (by kernel_rfl) (by intro _ _ _ h; exact h) (Or.inr ⟨by rfl, rfl⟩) (by assumption) ?_
          try simp only [Act.put, List.setIfInBounds_toArray, List.set_cons_zero, List.set_cons_succ]
          refine wpAnyH_take (i := 16) (v := undef) (by simp only [List.getElem?_toArray, List.getElem?_cons_zero, List.getElem?_cons_succ]; rfl) (by kernel_rfl) (by kernel_rfl) (by kernel_rfl) (by intro _ _ _ h; exact h) (Or.inr ⟨by rfl, rfl⟩) (by assumption) ?_
          try simp only [Act.put, List.setIfInBounds_toArray, List.set_cons_zero, List.set_cons_succ]
          refine wpAnyH_take (i := 17) (v := undef) (by simp only [List.getElem?_toArray, List.getElem?_cons_zero, List.getElem?_cons_succ]; rfl) (by kernel_rfl) (by kernel_rfl) (by kernel_rfl) (by intro _ _ _ h; exact h) (Or.inr ⟨by rfl, rfl⟩) (by assumption) ?_
          try simp only [Act.put, List.setIfInBounds_toArray, List.set_cons_zero, List.set_cons_succ]
          refine wpAnyH_take (i := 18) (v := undef) (by simp only [List.getElem?_toArray, List.getElem?_cons_zero, List.getElem?_cons_succ]; rfl) (by kernel_rfl) (by kernel_rfl) (by kernel_rfl) (by intro _ _ _ h; exact h) (Or.inr ⟨by rfl, rfl⟩) (by assumption) ?_
          try simp only [Act.put, List.setIfInBounds_toArray, List.set_cons_zero, List.set_cons_succ]
          refine wpAnyH_take (i := 19) (v := undef) (by simp only [List.getElem?_toArray, List.getElem?_cons_zero, List.getElem?_cons_succ]; rfl) (by kernel_rfl) (by kernel_rfl) (by kernel_rfl) (by intro _ _ _ h; exact h) (Or.inr ⟨by rfl, rfl⟩) (by assumption) ?_
          try simp only [Act.put, List.setIfInBounds_toArray, List.set_cons_zero, List.set_cons_succ]
          refine wpAnyH_take (i := 20) (v := undef) (by simp only [List.getElem?_toArray, List.getElem?_cons_zero, List.getElem?_cons_succ]; rfl) (by kernel_rfl) (by kernel_rfl) (by kernel_rfl) (by intro _ _ _ h; exact h) (Or.inr ⟨by rfl, rfl⟩) (by assumption) ?_
          try simp only [Act.put, List.setIfInBounds_toArray, List.set_cons_zero, List.set_cons_succ]
          refine wpAnyH_take (i := 21) (v := undef) (by simp only [List.getElem?_toArray, List.getElem?_cons_zero, List.getElem?_cons_succ]; rfl) (by kernel_rfl) (by kernel_rfl) (by kernel_rfl) (by intro _ _ _ h; exact h) (Or.inr ⟨by rfl, rfl⟩) (by assumption) ?_
          try simp only [Act.put, List.setIfInBounds_toArray, List.set_cons_zero, List.set_cons_succ]
          refine wpAnyH_take (i := 22) (v := undef) (by simp only [List.getElem?_toArray, List.getElem?_cons_zero, List.getElem?_cons_succ]; rfl) (by kernel_rfl) (by kernel_rfl) (by kernel_rfl) (by intro _ _ _ h; exact h) (Or.inr ⟨by rfl, rfl⟩) (by assumption) ?_
          try simp only [Act.put, List.setIfInBounds_toArray, List.set_cons_zero, List.set_cons_succ]
          refine wpAnyH_take (i := 23) (v := undef) (by simp only [List.getElem?_toArray, List.getElem?_cons_zero, List.getElem?_cons_succ]; rfl) (by kernel_rfl) (by kernel_rfl) (by kernel_rfl) (by intro _ _ _ h; exact h) (Or.inr ⟨by rfl, rfl⟩) (by assumption) ?_
          try simp only [Act.put, List.setIfInBounds_toArray, List.set_cons_zero, List.set_cons_succ]
          refine wpAnyH_take (i := 24) (v := undef) (by simp only [List.getElem?_toArray, List.getElem?_cons_zero, List.getElem?_cons_succ]; rfl) (by kernel_rfl) (by kernel_rfl) (by kernel_rfl) (by intro _ _ _ h; exact h) (Or.inr ⟨by rfl, rfl⟩) (by assumption) ?_
          try simp only [Act.put, List.setIfInBounds_toArray, List.set_cons_zero, List.set_cons_succ]
          refine wpAnyH_take (i := 25) (v := ?_) (by simp only [List.getElem?_toArray, List.getElem?_cons_zero, List.getElem?_cons_succ]; rfl) (by kernel_rfl) (by kernel_rfl) (by kernel_rfl) (by intro _ _ _ h; exact h) (Or.inl ⟨by rfl, ?_⟩) (by assumption) ?_
          rotate_left 1
          · (intro w' hSw; (try dsimp only at hSw); go_simp; (try (with_reducible rfl)))
          try simp only [Act.put, List.setIfInBounds_toArray, List.set_cons_zero, List.set_cons_succ]
          refine wpAnyH_done (by kernel_rfl) ?_ _
          go_wp2_with fail
          go_ret2
          exact ⟨by rw [H1.out, H2.out]; rfl, bthen hbQ hHeld.2.2.2.2.2.2⟩
      · obtain ⟨h1, h2⟩ := hno hlim
        have H1 := Lib.hid h1
        have H2 := Lib.hid h2
        clear hno h1 h2 HZ1 HZ2 HVV
        rcases (by omega : 24 ≤ hh ∨ (hh < 24 ∧ 60 ≤ m) ∨ (hh < 24 ∧ m < 60 ∧ 60 ≤ u) ∨ (hh < 24 ∧ m < 60 ∧ u < 60 ∧ c ≤ fr)) with g1 | ⟨g1, g2⟩ | ⟨g1, g2, g3⟩ | ⟨g1, g2, g3, g4⟩
        · clear hlim
          have j1 : (23 : Int) < (hh : Int) := by omega
          go_wp2_with fail
          go_quiet (fail)
          go_wp2_with fail
          go_ret2
          exact ⟨by rw [H1.out, H2.out]; rfl, below_drewN hbF nq⟩
        · clear hlim
          have j1 : (hh : Int) ≤ 23 := by omega
          have j2 : (59 : Int) < (m : Int) := by omega
          go_wp2_with fail
          go_quiet (fail)
          go_wp2_with fail
          go_ret2
          exact ⟨by rw [H1.out, H2.out]; rfl, below_drewN hbF nq⟩
        · clear hlim
          have j1 : (hh : Int) ≤ 23 := by omega
          have j2 : (m : Int) ≤ 59 := by omega
          have j3 : (59 : Int) < (u : Int) := by omega
          go_wp2_with fail
          go_quiet (fail)
          go_wp2_with fail
          go_ret2
          exact ⟨by rw [H1.out, H2.out]; rfl, below_drewN hbF nq⟩
        · clear hlim
          have j1 : (hh : Int) ≤ 23 := by omega
          have j2 : (m : Int) ≤ 59 := by omega
          have j3 : (u : Int) ≤ 59 := by omega
          have j4 : (c : Int) ≤ (fr : Int) := by omega
          go_wp2_with fail
          go_quiet (fail)
          go_wp2_with fail
          go_ret2
          exact ⟨by rw [H1.out, H2.out]; rfl, below_drewN hbF nq⟩
end Go.Proofs.YtfpmmfoinjcclaaDoor

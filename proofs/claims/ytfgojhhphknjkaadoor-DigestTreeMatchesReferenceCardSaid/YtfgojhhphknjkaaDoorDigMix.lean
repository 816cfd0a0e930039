/- The rounds over a block. -/
import Derived.Test.YtfgojhhphknjkaaDoorDigMixM
import Derived.Deep.QuietTactic
import Derived.BigQuiet
import Derived.Deep.WholeRow
namespace Go.Proofs.YtfgojhhphknjkaaDoor
open Go.RowKit

/-- The table of keys lies as it was laid. -/
def KeysAt (w : World) : Prop := ∀ i : Nat, i < 64 → w.cell? ⟨0, i, none⟩ = some (.int .u32 (keyL.getD i 0 : Nat))

theorem turnedQ (x n : Nat) (hx : x < 4294967296) (h1 : 1 ≤ n) (h2 : n ≤ 31) (w : World) (i : Int) (hi : i = n) (m : Nat) :
    Calls Tryd.prog 59 #[.int .u32 x, .int .i64 i] (w.drewN m) fun e w' => e = .returned (.int .u32 (rotr x n : Nat)) ∧ ∃ m, w' = w.drewN m :=
  hi ▸ (turned_any x n hx h1 h2 (w.drewN m)).mono fun _ _ ⟨he, hw⟩ => ⟨he, m, hw.symm⟩
theorem below_drewN {B : Nat} {a w : World} (h : Below B a w) (n : Nat) : Below B a (w.drewN n) := ⟨h.os, h.tape, h.output, h.size, h.block⟩
theorem Arr.drewN {W : World} {B : Nat} {t : TypeId} {vs : List Value} (h : Arr W B t vs) (n : Nat) : Arr (W.drewN n) B t vs := h

theorem info8 : (Tryd.prog.info? 60).map (·.size) = some 8 := by kernel_rfl
theorem info64b : (Tryd.prog.info? 65).map (·.size) = some 64 := by kernel_rfl

set_option maxRecDepth 100000 in
theorem store64 (ws : Array Value) (hw : ws.size = 64) (h1 : ws.all (·.oneCell') = true) (W : World) : (storeCells ⟨W.heap.size, 0, none⟩ ws.toList 0).run Tryd.prog (W.alloc (.cells #[.int .u32 0, .int .u32 0, .int .u32 0, .int .u32 0, .int .u32 0, .int .u32 0, .int .u32 0, .int .u32 0, .int .u32 0, .int .u32 0, .int .u32 0, .int .u32 0, .int .u32 0, .int .u32 0, .int .u32 0, .int .u32 0, .int .u32 0, .int .u32 0, .int .u32 0, .int .u32 0, .int .u32 0, .int .u32 0, .int .u32 0, .int .u32 0, .int .u32 0, .int .u32 0, .int .u32 0, .int .u32 0, .int .u32 0, .int .u32 0, .int .u32 0, .int .u32 0, .int .u32 0, .int .u32 0, .int .u32 0, .int .u32 0, .int .u32 0, .int .u32 0, .int .u32 0, .int .u32 0, .int .u32 0, .int .u32 0, .int .u32 0, .int .u32 0, .int .u32 0, .int .u32 0, .int .u32 0, .int .u32 0, .int .u32 0, .int .u32 0, .int .u32 0, .int .u32 0, .int .u32 0, .int .u32 0, .int .u32 0, .int .u32 0, .int .u32 0, .int .u32 0, .int .u32 0, .int .u32 0, .int .u32 0, .int .u32 0, .int .u32 0, .int .u32 0] 74)) = .ok () (W.alloc (.cells ws 74)) :=
  run_storeCells_new W _ _ ws (by rw [hw]; exact info64) (by rw [hw]; rfl) h1

set_option maxRecDepth 100000 in
set_option maxHeartbeats 2000000 in
theorem mixed_any (s : St) (hs : s.lt) (b : List Nat) (hb : b.length = 64) (hlt : ∀ x ∈ b, x < 256) (w : World) (hK : KeysAt w) (h0 : 0 < w.heap.size) :
    Calls Tryd.prog 51 #[.agg (u32s s.list).toArray, .agg (u8s b).toArray] w fun e w' => e = .returned (.agg (u32s (mix s b).list).toArray) ∧ Below w.heap.size w w' := by
  have HK := Lib.hid hK; clear hK
  have hsch := fun W => schedule_any b hb hlt W
  have hbl : (u8s b).toArray.size = 64 := by simp [u8s_len, hb]
  have hsl : (u32s s.list).toArray.size = 8 := by simp [u32s_len, St.list]
  have hwl : (u32s (wordsR b 64).reverse).toArray.size = 64 := by simp [u32s_len, wordsR_len]
  have hw1 := u32s_one (wordsR b 64).reverse
  generalize hws : (u32s (wordsR b 64).reverse).toArray = ws at *
  generalize hbs : (u8s b).toArray = bs at *
  generalize hss : (u32s s.list).toArray = ss at *
  have hi1 : (Tryd.prog.info? 65).map (·.size) = some bs.size := by rw [hbl]; exact info64b
  have hi2 : (Tryd.prog.info? 74).map (·.size) = some ws.size := by rw [hwl]; exact info64
  go_enter Tryd.func51, Tryd.ntmps51
  have hsc := store64 ws hwl hw1
  go_wp2_with (first | (refine wpList_load_row rfl 65 _ rfl (w.heap.size + 1) rfl 65 bs (0, 0) _ (by first | exact (Arr.new' _ bs.toList (by simp)).alloc _) Tryd.underlying65 rfl hi1 ?_) | (go_at_call 58; refine (hsch _).mono ?_; rintro e w1 ⟨rfl, b1⟩))
  have bz := b1.size
  simp only [World.size_alloc] at bz b1
  have A1 : Arr (w1.alloc (.cells ws 74)) w.heap.size 60 (u32s s.list) := by
    refine Arr.alloc (Arr.below (Arr.alloc (Arr.alloc (t := 60) (vs := u32s s.list) ?_ (.cells bs 65)) _) b1 (by omega)) _
    rw [← hss]; exact Arr.new w _ _
  have A2 : Arr (w1.alloc (.cells ws 74)) w1.heap.size 74 (u32s (wordsR b 64).reverse) := by rw [← hws]; exact Arr.new _ _ _
  have A3 : Arr (w1.alloc (.cells ws 74)) (w.heap.size + 1 + 1) 60 (u32s (List.replicate 8 0)) := by
    exact Arr.alloc (Arr.below (Arr.new' _ (u32s (List.replicate 8 0)) (by simp)) b1 (by omega)) _
  have hB : Below w.heap.size w (w1.alloc (.cells ws 74)) := by
    exact (((((Below.refl _ w).alloc (Nat.le_refl _) _).alloc (by simp) _).alloc (by simp; omega) _).trans (b1.mono (by omega))).alloc (by omega) _
  generalize w1.alloc (.cells ws 74) = W at *
  generalize w1.heap.size = B2 at *
  clear b1 hsc
  have c0 := A1.cell (i := 0) (u32s_get (l := s.list) (by simp [St.list]))
  have c1 := A1.cell (i := 1) (u32s_get (l := s.list) (by simp [St.list]))
  have c2 := A1.cell (i := 2) (u32s_get (l := s.list) (by simp [St.list]))
  have c3 := A1.cell (i := 3) (u32s_get (l := s.list) (by simp [St.list]))
  have c4 := A1.cell (i := 4) (u32s_get (l := s.list) (by simp [St.list]))
  have c5 := A1.cell (i := 5) (u32s_get (l := s.list) (by simp [St.list]))
  have c6 := A1.cell (i := 6) (u32s_get (l := s.list) (by simp [St.list]))
  have c7 := A1.cell (i := 7) (u32s_get (l := s.list) (by simp [St.list]))
  change W.cell? _ = some (.int .u32 (s.a : Int)) at c0
  change W.cell? _ = some (.int .u32 (s.b : Int)) at c1
  change W.cell? _ = some (.int .u32 (s.c : Int)) at c2
  change W.cell? _ = some (.int .u32 (s.d : Int)) at c3
  change W.cell? _ = some (.int .u32 (s.e : Int)) at c4
  change W.cell? _ = some (.int .u32 (s.f : Int)) at c5
  change W.cell? _ = some (.int .u32 (s.g : Int)) at c6
  change W.cell? _ = some (.int .u32 (s.h : Int)) at c7
  go_region
  go_wp2_with fail
  go_region
  go_wp2_with fail
  clear c0 c1 c2 c3 c4 c5 c6 c7 hsch hi1 hi2 hw1 hwl hws hbl hbs hss hsl
  have R0 : rnds b s 0 = s := rfl
  go_loopw [6, 7, 8, 9, 10, 11, 12, 13, 35] (fun ta tb tc td te tf tg th i wr => ∃ (k : Nat) (r : St), i = .int .i64 k ∧ k ≤ 64 ∧ r = rnds b s k ∧ ta = .int .u32 r.a ∧ tb = .int .u32 r.b ∧ tc = .int .u32 r.c ∧ td = .int .u32 r.d ∧ te = .int .u32 r.e ∧ tf = .int .u32 r.f ∧ tg = .int .u32 r.g ∧ th = .int .u32 r.h ∧
    Arr wr w.heap.size 60 (u32s s.list) ∧ Arr wr B2 74 (u32s (wordsR b 64).reverse) ∧ Arr wr (w.heap.size + 1 + 1) 60 (u32s (List.replicate 8 0)) ∧ Below w.heap.size w wr) (fun _ _ _ _ _ _ _ _ i _ => 64 - (intOf i).toNat)
  case atStart => exact ⟨0, s, rfl, by omega, rfl, rfl, rfl, rfl, rfl, rfl, rfl, rfl, rfl, A1.drew.drew, A2.drew.drew, A3.drew.drew, hB.drew.drew⟩
  case round =>
    clear A1 A2 A3 hB
    obtain ⟨k, r, rfl, hk, hr, rfl, rfl, rfl, rfl, rfl, rfl, rfl, rfl, A1, A2, A3, hB⟩ := hrel
    by_cases hk64 : k < 64
    · have hrl : r.lt := by rw [hr]; exact rnds_lt hs k
      obtain ⟨x, c, y, m, e1, x1, x2, e2, c1, c2, e3, y1, y2, e4, m1, m2⟩ := round_words r hrl
      have ck := (hB.cell (p := ⟨0, k, none⟩) h0).trans (HK.out k hk64)
      have cw := A2.cell (i := k) (u32s_get (l := (wordsR b 64).reverse) (by simpa [wordsR_len] using hk64))
      have hww : ((wordsR b 64).reverse).getD k 0 = (wordsR b 64).getD (63 - k) 0 := by
        rw [List.getD_eq_getElem?_getD, List.getElem?_reverse (by simpa [wordsR_len] using hk64), wordsR_len, ← List.getD_eq_getElem?_getD]
      rw [hww] at cw
      have lk := key_lt k
      have lw := getD_lt (wordsR_lt hlt 64) (by decide) (63 - k)
      have HR : Hid (rnds b s (k + 1) = rnd r (keyL.getD k 0) ((wordsR b 64).getD (63 - k) 0)) := Lib.hid (by rw [hr]; rfl)
      clear hr
      generalize keyL.getD k 0 = kk at *
      generalize (wordsR b 64).getD (63 - k) 0 = ww at *
      clear hww
      obtain ⟨h1, h2, h3, h4, h5, h6, h7, h8⟩ := hrl
      obtain ⟨t, ht, tl, Ht⟩ : ∃ t : Nat, ((r.h : Int) + (x : Int) + (c : Int) + (kk : Int) + (ww : Int)) % 4294967296 = (t : Int) ∧ t < 4294967296 ∧ Hid (t = tOf r kk ww) := by
        refine ⟨tOf r kk ww, ?_, Nat.mod_lt _ (by decide), Lib.hid rfl⟩
        unfold tOf; rw [← x1, ← c1]; omega
      obtain ⟨u, hu, ul, Hu⟩ : ∃ u : Nat, ((y : Int) + (m : Int)) % 4294967296 = (u : Int) ∧ u < 4294967296 ∧ Hid (u = uOf r) := by
        refine ⟨uOf r, ?_, Nat.mod_lt _ (by decide), Lib.hid rfl⟩
        unfold uOf; rw [← y1, ← m1]; omega
      have Q1 := fun n => turnedQ r.e 6 h5 (by omega) (by omega) wr 6 rfl n
      have Q2 := fun n => turnedQ r.e 11 h5 (by omega) (by omega) wr 11 rfl n
      have Q3 := fun n => turnedQ r.e 25 h5 (by omega) (by omega) wr 25 rfl n
      have T1 := fun W => turned_any r.a 2 h1 (by omega) (by omega) W
      have T2 := fun W => turned_any r.a 13 h1 (by omega) (by omega) W
      have T3 := fun W => turned_any r.a 22 h1 (by omega) (by omega) W
      clear x1 x2 c1 c2 y1 y2 m1 m2
      have hsg : IntKind.u32.signed = false := rfl
      have i0 : (0 : Int) ≤ (k : Int) := by omega
      have i1 : (k : Int) < 64 := by omega
      go_wp2_with fail
      go_quiet ((go_at_call 59; first | with_reducible exact Q1 _ | with_reducible exact Q2 _ | with_reducible exact Q3 _))
      go_wp2_with (go_at_call 59; first | (refine (T1 _).mono ?_; rintro e w' ⟨rfl, rfl⟩) | (refine (T2 _).mono ?_; rintro e w' ⟨rfl, rfl⟩) | (refine (T3 _).mono ?_; rintro e w' ⟨rfl, rfl⟩))
      go_roundw
      case rel =>
        refine ⟨k + 1, rnd r kk ww, by go_num, by omega, HR.out.symm, ?_, rfl, rfl, rfl, ?_, rfl, rfl, rfl, A1.drewN _, A2.drewN _, A3.drewN _, below_drewN hB _⟩
        · show Value.int _ _ = Value.int _ (((tOf r kk ww + uOf r) % 4294967296 : Nat) : Int)
          rw [← Ht.out, ← Hu.out]; first | rfl | (congr 1; omega)
        · show Value.int _ _ = Value.int _ (((r.d + tOf r kk ww) % 4294967296 : Nat) : Int)
          rw [← Ht.out]; first | rfl | (congr 1; omega)
      case measure => simp [intOf]; omega
    · obtain ⟨h1, h2, h3, h4, h5, h6, h7, h8⟩ := hs
      have d0 := A1.cell (i := 0) (v := .int .u32 (s.a : Int)) rfl
      have d1 := A1.cell (i := 1) (v := .int .u32 (s.b : Int)) rfl
      have d2 := A1.cell (i := 2) (v := .int .u32 (s.c : Int)) rfl
      have d3 := A1.cell (i := 3) (v := .int .u32 (s.d : Int)) rfl
      have d4 := A1.cell (i := 4) (v := .int .u32 (s.e : Int)) rfl
      have d5 := A1.cell (i := 5) (v := .int .u32 (s.f : Int)) rfl
      have d6 := A1.cell (i := 6) (v := .int .u32 (s.g : Int)) rfl
      have d7 := A1.cell (i := 7) (v := .int .u32 (s.h : Int)) rfl
      have e64 : k = 64 := by omega
      have HM : Hid (mix s b = s.plus r) := Lib.hid (by rw [hr, e64]; rfl)
      clear hr e64 R0
      clear A1 A2
      obtain ⟨out, hout, Hout⟩ : ∃ out : Array Value, #[.int .u32 (((s.a : Int) + (r.a : Int)) % 4294967296), .int .u32 (((s.b : Int) + (r.b : Int)) % 4294967296), .int .u32 (((s.c : Int) + (r.c : Int)) % 4294967296), .int .u32 (((s.d : Int) + (r.d : Int)) % 4294967296), .int .u32 (((s.e : Int) + (r.e : Int)) % 4294967296), .int .u32 (((s.f : Int) + (r.f : Int)) % 4294967296), .int .u32 (((s.g : Int) + (r.g : Int)) % 4294967296), .int .u32 (((s.h : Int) + (r.h : Int)) % 4294967296)] = out ∧ Hid (out = (u32s (s.plus r).list).toArray) := by
        refine ⟨_, rfl, Lib.hid ?_⟩
        simp [u32s, St.plus, St.list]
      have hos : out.size = 8 := by rw [← hout]; rfl
      have ho1 : out.all (·.oneCell') = true := by rw [Hout.out]; exact u32s_one _
      have hsc := A3.store (P := Tryd.prog) out (by rw [hos]; exact info8) (by rw [hos]; rfl) ho1
      have hA4 : (wr.setRow (w.heap.size + 1 + 1) out).heap[w.heap.size + 1 + 1]? = some (.cells out 60 (0, 0)) := setRow_heap _ _ _ _ _ _ A3
      clear A3
      go_wp2
      refine bodyPost_ret (v := .agg out) ?_ rfl ⟨by rw [Hout.out, HM.out], below_setRow hB (by omega) _⟩
      exact results_cell_row rfl _ _ (w.heap.size + 1 + 1) 60 out (0, 0) _ rfl hA4 Tryd.underlying60 rfl (by rw [hos]; exact info8)
end Go.Proofs.YtfgojhhphknjkaaDoor

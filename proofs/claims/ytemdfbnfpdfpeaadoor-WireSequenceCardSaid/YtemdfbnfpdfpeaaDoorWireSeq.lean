/- WireSequence's walk. -/
import Derived.Test.YtemdfbnfpdfpeaaDoorWireUq
import Derived.Test.YtemdfbnfpdfpeaaDoorLawKit
import Derived.StillTailTactics
import Derived.Deep.RegionHeld3
namespace Go.Proofs.YtemdfbnfpdfpeaaDoor
open Go.RowKit

/-- The strings of the concatenation: n integers and n texts. -/
structure Seq where
  zs : List Int
  ts : List ByteArray

def Seq.num (q : Seq) (i : Nat) : Int := numFrom (q.zs.getD i 0)
def Seq.txt (q : Seq) (i : Nat) : ByteArray := (q.ts.getD i ⟨#[]⟩).extract 0 (min ((q.ts.getD i ⟨#[]⟩).size : Int) 100).toNat
def Seq.a (q : Seq) (i : Nat) : ByteArray := strOfNums (enc (foldZ (q.num i)))
def Seq.b (q : Seq) (i : Nat) : ByteArray := strOfNums (enc (foldZ ((q.txt i).size : Int))) ++ q.txt i
def Seq.cat (q : Seq) : Nat → ByteArray
  | 0 => ⟨#[]⟩
  | i + 1 => q.cat i ++ q.a i ++ q.b i

theorem Seq.txt_size (q : Seq) (i : Nat) : (q.txt i).size ≤ 100 := by unfold Seq.txt; rw [ByteArray.size_extract]; omega
theorem Seq.a_size (q : Seq) (i : Nat) : (q.a i).size ≤ 9 := by unfold Seq.a; rw [encS_size]; exact (enc_length _).1
theorem Seq.b_size (q : Seq) (i : Nat) : (q.b i).size ≤ 109 := by unfold Seq.b; rw [ByteArray.size_append, encS_size]; have := (enc_length (foldZ ((q.txt i).size : Int))).1; have := q.txt_size i; omega
theorem Seq.cat_size (q : Seq) (i : Nat) : (q.cat i).size ≤ 118 * i := by
  induction i with
  | zero => exact Nat.le_refl _
  | succ i ih =>
    show (q.cat i ++ q.a i ++ q.b i).size ≤ _
    rw [ByteArray.size_append, ByteArray.size_append]
    have := q.a_size i; have := q.b_size i; omega
theorem Seq.cat_more (q : Seq) (i d : Nat) : ∃ r, q.cat (i + d) = q.cat i ++ r := by
  induction d with
  | zero => exact ⟨⟨#[]⟩, by apply ba_ext; simp⟩
  | succ d ih =>
    obtain ⟨r, hr⟩ := ih
    refine ⟨r ++ q.a (i + d) ++ q.b (i + d), ?_⟩
    show q.cat (i + d) ++ q.a (i + d) ++ q.b (i + d) = _
    rw [hr]; apply ba_ext; simp [List.append_assoc]
theorem Seq.num_bd (q : Seq) (i : Nat) : -576460752303423488 ≤ q.num i ∧ q.num i ≤ 576460752303423488 := numFrom_bd _

/-- What Int and String return at the i-th place. -/
theorem Seq.reads (q : Seq) {i n : Nat} (h : i < n) :
    intZ (q.cat n) ((q.cat i).size : Int) = (q.num i, (((q.cat i).size + (q.a i).size : Nat) : Int), 0) ∧
    stringZ (q.cat n) (((q.cat i).size + (q.a i).size : Nat) : Int) = (q.txt i, (((q.cat (i + 1)).size : Nat) : Int), 0) := by
  obtain ⟨r, hr⟩ := q.cat_more (i + 1) (n - (i + 1))
  rw [show i + 1 + (n - (i + 1)) = n by omega] at hr
  have hb := q.num_bd i
  have ht := q.txt_size i
  constructor
  · have e : q.cat n = q.cat i ++ q.a i ++ (q.b i ++ r) := by
      rw [hr]
      show q.cat i ++ q.a i ++ q.b i ++ r = _
      apply ba_ext; simp [List.append_assoc]
    rw [e]
    have := intZ_put (n := q.num i) (by omega) (by omega) (q.cat i) (q.b i ++ r)
    rw [show strOfNums (enc (foldZ (q.num i))) = q.a i from rfl] at this
    rw [this]; simp
  · have e : q.cat n = (q.cat i ++ q.a i) ++ q.b i ++ r := by rw [hr]; rfl
    rw [e]
    have := stringZ_put (t := q.txt i) (by omega) (q.cat i ++ q.a i) r
    rw [show strOfNums (enc (foldZ ((q.txt i).size : Int))) ++ q.txt i = q.b i from rfl] at this
    rw [show (q.cat i).size + (q.a i).size = (q.cat i ++ q.a i).size by rw [ByteArray.size_append], this]
    show (q.txt i, _, _) = (q.txt i, (((q.cat i ++ q.a i ++ q.b i).size : Nat) : Int), 0)
    rw [show (q.cat i ++ q.a i ++ q.b i).size = (q.cat i ++ q.a i).size + (q.b i).size from ByteArray.size_append]; simp

theorem Seq.ends (q : Seq) (n : Nat) : intZ (q.cat n) ((q.cat n).size : Int) = (0, 0, 10) := by
  refine intZ_none (Nat.le_refl _) ?_
  rw [size_list, List.drop_length]; rfl
theorem getD64 {l : List Int} (h : ∀ n ∈ l, (Lit.int .i64 n).wf = true) (i : Nat) : -9223372036854775808 ≤ l.getD i 0 ∧ l.getD i 0 ≤ 9223372036854775807 := by
  rw [List.getD_eq_getElem?_getD]
  cases hi : l[i]? with
  | none => simp
  | some n => exact wf64 (h n (List.mem_of_getElem? hi))
theorem getDStr {l : List ByteArray} (h : ∀ s ∈ l, s.size ≤ maxLen) (i : Nat) : (l.getD i ⟨#[]⟩).size ≤ 9223372036854775807 := by
  rw [List.getD_eq_getElem?_getD]
  cases hi : l[i]? with
  | none => exact Nat.zero_le _
  | some n => have := h n (List.mem_of_getElem? hi); unfold maxLen at this; simpa using this

theorem keepS {W W' w : World} {a : Addr} {v : Value} (ha : a.block < w.heap.size) (b : Below W.heap.size W W') (h : W.cell? a = some v ∧ Below w.heap.size w W) : W'.cell? a = some v ∧ Below w.heap.size w W' :=
  ⟨(b.cell (p := a) (by have := h.2.size; omega)).trans h.1, bthen h.2 b⟩

theorem keepS2 {W W' w : World} {a c : Addr} {v u : Value} (ha : a.block < w.heap.size) (hc : c.block < w.heap.size) (b : Below W.heap.size W W') (h : W.cell? a = some v ∧ W.cell? c = some u ∧ Below w.heap.size w W) : W'.cell? a = some v ∧ W'.cell? c = some u ∧ Below w.heap.size w W' :=
  ⟨(b.cell (p := a) (by have := h.2.2.size; omega)).trans h.1, (b.cell (p := c) (by have := h.2.2.size; omega)).trans h.2.1, bthen h.2.2 b⟩

set_option maxRecDepth 100000 in
set_option maxHeartbeats 4000000 in
theorem sequence_any (q : Seq) (p1 p2 : Option Addr) (len1 len2 cap1 cap2 : Nat) (w : World) (hl1 : len1 ≤ 9223372036854775807) (hl2 : len2 ≤ 9223372036854775807)
    (h1 : SliceAt w p1 len1 fun i => .int .i64 (q.zs.getD i 0)) (h2 : SliceAt w p2 len2 fun i => .string (q.ts.getD i ⟨#[]⟩))
    (hw1 : ∀ i, -9223372036854775808 ≤ q.zs.getD i 0 ∧ q.zs.getD i 0 ≤ 9223372036854775807) (hw2 : ∀ i, (q.ts.getD i ⟨#[]⟩).size ≤ 9223372036854775807)
    (hT : TabAt w) (h0 : 0 < w.heap.size) :
    Calls Tryd.prog 6 #[.slice p1 len1 cap1, .slice p2 len2 cap2] w fun e w' => e = .returned (.bool true) ∧ Below w.heap.size w w' := by
  have HT := Lib.hid hT; clear hT
  have H1 := Lib.hid h1; clear h1
  have H2 := Lib.hid h2; clear h2
  have W1 := Lib.hid hw1; clear hw1
  have W2 := Lib.hid hw2; clear hw2
  obtain ⟨n, hmin, n1, n2, n20⟩ : ∃ n : Nat, (∀ W, (Builtin.min_ #[3, 3, 3] 3 #[.int .i64 len1, .int .i64 len2, .int .i64 20]).run Tryd.prog W = .ok (.int .i64 n) W) ∧ n ≤ len1 ∧ n ≤ len2 ∧ n ≤ 20 := by
    refine ⟨min (min len1 len2) 20, fun W => ?_, by omega, by omega, by omega⟩
    rw [run_min_int3]
    congr 2
    split <;> split <;> omega
  go_enter Tryd.func6, Tryd.ntmps6
  go_wp2_with fail
  refine (sane_any _ HT.out h0).mono ?_; rintro e w1 ⟨rfl, b1⟩
  go_wp2_with fail
  clear hmin
  go_loopw [7, 8] (fun s i wr => ∃ k : Nat, i = .int .i64 k ∧ s = .string (q.cat k) ∧ k ≤ n ∧ Below w.heap.size w wr) (fun _ i _ => n - (intOf i).toNat)
  case atStart => exact ⟨0, rfl, rfl, by omega, b1⟩
  case round =>
    obtain ⟨k, rfl, rfl, hk, hb⟩ := hrel
    by_cases hlt : k < n
    · obtain ⟨c1, o1, rfl, lt1, x1⟩ := H1.out k (by omega)
      obtain ⟨c2, o2, rfl, lt2, x2⟩ := H2.out k (by omega)
      have y1 : wr.cell? ⟨c1, o1 + k, none⟩ = some (.int .i64 (q.zs.getD k 0)) := (hb.cell (p := ⟨c1, o1 + k, none⟩) lt1).trans x1
      have y2 : wr.cell? ⟨c2, o2 + k, none⟩ = some (.string (q.ts.getD k ⟨#[]⟩)) := (hb.cell (p := ⟨c2, o2 + k, none⟩) lt2).trans x2
      clear x1 x2
      obtain ⟨z1, z2⟩ := W1.out k
      have z3 := W2.out k
      have hN := fun W => numberFrom_any (q.zs.getD k 0) W z1 z2
      have hP := fun W => putInt_any (q.num k) W (by have := q.num_bd k; omega) (by have := q.num_bd k; omega)
      rw [show numFrom (q.zs.getD k 0) = q.num k from rfl] at hN
      rw [show strOfNums (enc (foldZ (q.num k))) = q.a k from rfl] at hP
      have ht := q.txt_size k
      have hS := fun W => putString_all (q.txt k) W (by omega)
      rw [putStringZ_le (by omega), show strOfNums (enc (foldZ ((q.txt k).size : Int))) ++ q.txt k = q.b k from rfl] at hS
      have hx : Hid (q.txt k = (q.ts.getD k ⟨#[]⟩).extract 0 (min ((q.ts.getD k ⟨#[]⟩).size : Int) 100).toNat) := Lib.hid rfl
      have sz1 := q.cat_size k
      have sz2 := q.a_size k
      have sz3 := q.b_size k
      generalize q.zs.getD k 0 = z at *
      generalize q.ts.getD k ⟨#[]⟩ = t at *
      have hcat : Hid (q.cat (k + 1) = q.cat k ++ q.a k ++ q.b k) := Lib.hid rfl
      go_wp2_with fail
      refine (hN _).mono ?_; rintro e w4 ⟨rfl, b4⟩
      go_wp2_with fail
      refine (hP _).mono ?_; rintro e w5 ⟨rfl, b5⟩
      clear hN hP y1
      have b6 := bthen b4 b5
      have lt3 : c2 < wr.heap.size := by have := hb.size; omega
      replace y2 := (b6.cell (p := ⟨c2, o2 + k, none⟩) lt3).trans y2
      go_wp2_with fail
      rw [hx.out] at hS
      have i1 : (0 : Int) ≤ (k : Int) := by omega
      have i2 : (k : Int) < (len2 : Int) := by omega
      have i3 : (0 : Int) ≤ min (t.size : Int) 100 := by omega
      have i4 : min (t.size : Int) 100 ≤ (t.size : Int) := by omega
      have hbd := (hb.trans (b6.mono hb.size)).drew
      go_region_held3 (fun w' => w'.cell? ⟨c2, o2 + k, none⟩ = some (.string t) ∧ Below w.heap.size w w') (first | exact ⟨y2, hbd⟩ | exact keepS (a := ⟨c2, o2 + k, none⟩) lt2 b7 (by assumption))
        (first | (go_at_call 19; refine (hS _).mono ?_; rintro e w7 ⟨rfl, b7⟩))
      have hbz := (show w7.cell? ⟨c2, o2 + k, none⟩ = some (.string t) ∧ Below w.heap.size w w7 by assumption).2
      clear hS y2 hbd
      have sz := Seq.cat_size q k
      go_wp2
      go_roundw
      case rel => exact ⟨k + 1, by go_num, by rw [hcat.out], by omega, hbz⟩
      case measure => simp [intOf]; omega
    · obtain rfl : k = n := by omega
      have szn := q.cat_size k
      have HE : Hid (intZ (q.cat k) ((q.cat k).size : Int) = (0, 0, 10)) := Lib.hid (q.ends k)
      generalize hS : q.cat k = S at *
      have HS := Lib.hid hS
      clear hS
      go_wp2_with fail
      obtain ⟨wo, hwo⟩ : ∃ wo, wo = wr := ⟨_, rfl⟩
      rw [← hwo] at hb ⊢
      clear hwo
      go_loopw [13, 14] (fun a i wr => ∃ j : Nat, i = .int .i64 j ∧ a = .int .i64 (q.cat j).size ∧ j ≤ k ∧ Below w.heap.size w wr) (fun _ i _ => k - (intOf i).toNat)
      case atStart => exact ⟨0, rfl, rfl, by omega, hb⟩
      case round =>
        obtain ⟨j, rfl, rfl, hj, hbj⟩ := hrel
        by_cases hjk : j < k
        · obtain ⟨c1, o1, rfl, lt1, x1⟩ := H1.out j (by omega)
          obtain ⟨c2, o2, rfl, lt2, x2⟩ := H2.out j (by omega)
          have y1 : wr.cell? ⟨c1, o1 + j, none⟩ = some (.int .i64 (q.zs.getD j 0)) := (hbj.cell (p := ⟨c1, o1 + j, none⟩) lt1).trans x1
          have y2 : wr.cell? ⟨c2, o2 + j, none⟩ = some (.string (q.ts.getD j ⟨#[]⟩)) := (hbj.cell (p := ⟨c2, o2 + j, none⟩) lt2).trans x2
          clear x1 x2
          obtain ⟨z1, z2⟩ := W1.out j
          have z3 := W2.out j
          have hN := fun W => numberFrom_any (q.zs.getD j 0) W z1 z2
          rw [show numFrom (q.zs.getD j 0) = q.num j from rfl] at hN
          have hx : Hid (q.txt j = (q.ts.getD j ⟨#[]⟩).extract 0 (min ((q.ts.getD j ⟨#[]⟩).size : Int) 100).toNat) := Lib.hid rfl
          obtain ⟨r1, r2⟩ := q.reads hjk
          rw [HS.out] at r1 r2
          have sj := q.cat_size j
          have sa := q.a_size j
          have hI := fun W => int_all S ((q.cat j).size : Int) W (by omega) (by omega) (by omega)
          have hT := fun W => string_all S (((q.cat j).size + (q.a j).size : Nat) : Int) W (by omega) (by omega) (by omega)
          rw [r1] at hI
          rw [r2] at hT
          have nb := q.num_bd j
          generalize q.num j = m at *
          generalize q.zs.getD j 0 = z at *
          generalize q.ts.getD j ⟨#[]⟩ = t at *
          generalize (q.cat j).size + (q.a j).size = mid at *
          rw [hx.out] at hT
          clear r1 r2
          go_wp2_with fail
          refine (hI _).mono ?_; rintro e w4 ⟨rfl, rfl⟩
          go_wp2_with fail
          refine (hT _).mono ?_; rintro e w5 ⟨rfl, b5⟩
          clear hI hT
          have lt3 : c1 < wr.heap.size := by have := hbj.size; omega
          have lt4 : c2 < wr.heap.size := by have := hbj.size; omega
          replace y1 := (b5.cell (p := ⟨c1, o1 + j, none⟩) lt3).trans y1
          replace y2 := (b5.cell (p := ⟨c2, o2 + j, none⟩) lt4).trans y2
          have i1 : (0 : Int) ≤ (j : Int) := by omega
          have i2 : (j : Int) < (len2 : Int) := by omega
          have i5 : (j : Int) < (len1 : Int) := by omega
          have i3 : (0 : Int) ≤ min (t.size : Int) 100 := by omega
          have i4 : min (t.size : Int) 100 ≤ (t.size : Int) := by omega
          have hbd := (hbj.trans (b5.mono hbj.size)).drew
          go_wp2_with fail
          go_region_held3 (fun w' => w'.cell? ⟨c1, o1 + j, none⟩ = some (.int .i64 z) ∧ w'.cell? ⟨c2, o2 + j, none⟩ = some (.string t) ∧ Below w.heap.size w w') (first | assumption | exact ⟨y1, y2, hbd⟩ | exact keepS2 (a := ⟨c1, o1 + j, none⟩) (c := ⟨c2, o2 + j, none⟩) lt1 lt2 b7 (by assumption))
            (first | (go_at_call 11; refine (hN _).mono ?_; rintro e w7 ⟨rfl, b7⟩))
          have hbz := (show w7.cell? ⟨c1, o1 + j, none⟩ = some (.int .i64 z) ∧ w7.cell? ⟨c2, o2 + j, none⟩ = some (.string t) ∧ Below w.heap.size w w7 by assumption).2.2
          clear hN y1 y2 hbd
          go_wp2
          go_roundw
          case rel => exact ⟨j + 1, by go_num, rfl, by omega, hbz⟩
          case measure => simp [intOf]; omega
        · obtain rfl : j = k := by omega
          have hI := fun W => int_all S (S.size : Int) W (by omega) (by omega) (by omega)
          rw [HE.out] at hI
          rw [HS.out]
          go_wp2_with fail
          refine (hI _).mono ?_; rintro e w4 ⟨rfl, rfl⟩
          go_wp2
          go_ret
          exact ⟨rfl, hbj⟩
end Go.Proofs.YtemdfbnfpdfpeaaDoor

/- WireSumAffine's walk. -/
import Derived.Test.YtemdfbnfpdfpeaaDoorWireUq
import Derived.Laws.MakeOwn
namespace Go.Proofs.YtemdfbnfpdfpeaaDoor
open Go.RowKit

theorem xlc (a b c : Nat) : a ^^^ (b ^^^ c) = b ^^^ (a ^^^ c) := by rw [← Nat.xor_assoc, Nat.xor_comm a b, Nat.xor_assoc]
theorem xor_div16 (r s : Nat) : (r ^^^ s) / 16 = r / 16 ^^^ s / 16 := Nat.xor_div_two_pow (n := 4)
theorem xor_mod16 (r s : Nat) : (r ^^^ s) % 16 = r % 16 ^^^ s % 16 := Nat.xor_mod_two_pow (n := 4)
theorem tab_lin : ∀ i j : Fin 16, crcTab.getD (i.1 ^^^ j.1) 0 = crcTab.getD i.1 0 ^^^ crcTab.getD j.1 0 := by decide +kernel
theorem half_lin (r s : Nat) : crcHalf (r ^^^ s) = crcHalf r ^^^ crcHalf s := by
  unfold crcHalf
  rw [xor_div16, xor_mod16, tab_lin ⟨r % 16, by omega⟩ ⟨s % 16, by omega⟩]
  simp only [Nat.xor_assoc, xlc, Nat.xor_comm]
theorem step_lin (r s : Nat) (a b : UInt8) : crcStep (r ^^^ s) (a ^^^ b) = crcStep r a ^^^ crcStep s b := by
  unfold crcStep
  rw [UInt8.toNat_xor, show r ^^^ s ^^^ (a.toNat ^^^ b.toNat) = (r ^^^ a.toNat) ^^^ (s ^^^ b.toNat) by simp only [Nat.xor_assoc, xlc], half_lin, half_lin]

def xor3 (a b c : List UInt8) : List UInt8 := ((a.zip b).zip c).map fun x => x.1.1 ^^^ x.1.2 ^^^ x.2

theorem fold_lin : ∀ (a b c : List UInt8) (r s t : Nat), a.length = b.length → b.length = c.length → (xor3 a b c).foldl crcStep (r ^^^ s ^^^ t) = a.foldl crcStep r ^^^ b.foldl crcStep s ^^^ c.foldl crcStep t
  | [], [], [], _, _, _, _, _ => rfl
  | x :: a, y :: b, z :: c, r, s, t, h1, h2 => by
    show (xor3 a b c).foldl crcStep (crcStep (r ^^^ s ^^^ t) (x ^^^ y ^^^ z)) = _
    rw [step_lin, step_lin, fold_lin a b c _ _ _ (by simpa using h1) (by simpa using h2)]
    rfl
theorem sum_lin (a b c : List UInt8) (h1 : a.length = b.length) (h2 : b.length = c.length) : crcSum (xor3 a b c) = crcSum a ^^^ crcSum b ^^^ crcSum c := by
  unfold crcSum crcReg
  have := fold_lin a b c 4294967295 4294967295 4294967295 h1 h2
  rw [Nat.xor_self, Nat.zero_xor] at this
  rw [this]
  generalize a.foldl crcStep 4294967295 = x
  generalize b.foldl crcStep 4294967295 = y
  generalize c.foldl crcStep 4294967295 = z
  generalize 4294967295 = m
  have h : x ^^^ m ^^^ (y ^^^ m) ^^^ (z ^^^ m) = x ^^^ y ^^^ z ^^^ (m ^^^ m ^^^ m) := by simp only [Nat.xor_assoc, xlc, Nat.xor_comm]
  rw [h, Nat.xor_self, Nat.zero_xor]

theorem reg_lt (l : List UInt8) : ∀ r, r < 4294967296 → l.foldl crcStep r < 4294967296 := by
  induction l with
  | nil => exact fun r h => h
  | cons b l ih => exact fun r h => ih _ (crcStep_lt b h)
theorem crcSum_lt (l : List UInt8) : crcSum l < 4294967296 := Nat.xor_lt_two_pow (n := 32) (reg_lt l _ (by omega)) (by omega)

theorem bits_xor_i64 (a b : Nat) (ha : a < 4294967296) (hb : b < 4294967296) : bits .xor .i64 (a : Int) (b : Int) = ((a ^^^ b : Nat) : Int) := by
  have hx : a ^^^ b < 2 ^ 32 := Nat.xor_lt_two_pow ha hb
  have h1 : (BitVec.ofInt 64 (a : Int)).toNat = a := by
    rw [BitVec.ofInt_natCast, BitVec.toNat_ofNat]; exact Nat.mod_eq_of_lt (by omega)
  have h2 : (BitVec.ofInt 64 (b : Int)).toNat = b := by
    rw [BitVec.ofInt_natCast, BitVec.toNat_ofNat]; exact Nat.mod_eq_of_lt (by omega)
  show IntKind.i64.wrap ((BitVec.ofInt 64 (a : Int) ^^^ BitVec.ofInt 64 (b : Int)).toNat : Int) = _
  rw [BitVec.toNat_xor, h1, h2, IntKind.wrap_i64]
  omega

theorem below_drewN {B : Nat} {a w : World} (h : Below B a w) (n : Nat) : Below B a (w.drewN n) := ⟨h.os, h.tape, h.output, h.size, h.block⟩
theorem TabAt.drewN {w : World} (h : TabAt w) (n : Nat) : TabAt (w.drewN n) := h
theorem sumQ (s : ByteArray) (w : World) (n : Nat) (hs : s.size ≤ 140737488351232) (hT : TabAt w) :
    Calls Tryd.prog 21 #[.string s] (w.drewN n) fun e w' => e = .returned (.int .i64 (crcSum s.data.toList : Nat)) ∧ ∃ m, w' = w.drewN m :=
  (sum_any s (w.drewN n) hs (hT.drewN n)).mono fun _ _ ⟨he, hw⟩ => ⟨he, n, hw.symm⟩

/-- The byte at i of the three strings' XOR. -/
def xorAt (a b c : ByteArray) (i : Nat) : Int := (((a.data.toList.getD i 0).toNat ^^^ (b.data.toList.getD i 0).toNat ^^^ (c.data.toList.getD i 0).toNat : Nat) : Int)

theorem run_min4 {P : Program} (w : World) (ts : Array TypeId) (t : TypeId) (k : IntKind) (x y z u : Int) : ∃ m, (Builtin.min_ ts t #[.int k x, .int k y, .int k z, .int k u]).run P w = .ok (.int k m) w ∧ m ≤ x ∧ m ≤ y ∧ m ≤ z ∧ m ≤ u ∧ (m = x ∨ m = y ∨ m = z ∨ m = u) := by
  refine ⟨_, by simp [Builtin.min_, Builtin.min2]; rfl, ?_⟩
  split <;> split <;> split <;> omega

theorem getD_at (s : ByteArray) (i : Nat) (h : i < s.size) : s.data.toList.getD i 0 = s[i] := by
  rw [List.getD_eq_getElem?_getD, List.getElem?_eq_getElem (by simpa using h)]; rfl

/-- The three strings' XOR, as the row that the loop fills. -/
theorem row_xor3 (a b c : ByteArray) (n : Nat) (ha : n ≤ a.size) (hb : n ≤ b.size) (hc : n ≤ c.size) (xs : List Int) (hl : xs.length = n) (h : ∀ i, i < n → xs.getD i 0 = xorAt a b c i) :
    (strOfNums xs).data.toList = xor3 ((a.extract 0 n).data.toList) ((b.extract 0 n).data.toList) ((c.extract 0 n).data.toList) := by
  rw [strOfNums_data]
  simp only [extract_list, List.drop_zero]
  have la : a.data.toList.length = a.size := by simp
  have lb : b.data.toList.length = b.size := by simp
  have lc : c.data.toList.length = c.size := by simp
  apply List.ext_getElem
  · simp only [List.length_map, xor3, List.length_zip, List.length_take]; omega
  · intro i h1 h2
    have hi : i < n := by simpa [hl] using h1
    have hx := h i hi
    rw [List.getD_eq_getElem?_getD, List.getElem?_eq_getElem (by omega), Option.getD_some] at hx
    simp only [List.getElem_map, xor3, List.getElem_zip, List.getElem_take, hx, xorAt, List.getD_eq_getElem?_getD, List.getElem?_eq_getElem (show i < a.data.toList.length by omega), List.getElem?_eq_getElem (show i < b.data.toList.length by omega), List.getElem?_eq_getElem (show i < c.data.toList.length by omega), Option.getD_some]
    rw [← UInt8.toNat_xor, ← UInt8.toNat_xor]
    simp

set_option maxRecDepth 100000 in
set_option maxHeartbeats 4000000 in
theorem affine_any (a b c : ByteArray) (w : World) (ha : a.size ≤ 140737488351232) (hb : b.size ≤ 140737488351232) (hc : c.size ≤ 140737488351232)
    (hT : TabAt w) (h0 : 0 < w.heap.size) :
    Calls Tryd.prog 9 #[.string a, .string b, .string c] w fun e w' => e = .returned (.bool true) ∧ Below w.heap.size w w' := by
  have HT := Lib.hid hT; clear hT
  obtain ⟨n, hmin, na, nb, nc, n2⟩ : ∃ n : Nat, (∀ W, (Builtin.min_ #[3, 3, 3, 3] 3 #[.int .i64 a.size, .int .i64 b.size, .int .i64 c.size, .int .i64 200]).run Tryd.prog W = .ok (.int .i64 n) W) ∧ n ≤ a.size ∧ n ≤ b.size ∧ n ≤ c.size ∧ n ≤ 200 := by
    obtain ⟨m, h1, h2, h3, h4, h5, h6⟩ := run_min4 (P := Tryd.prog) w #[3, 3, 3, 3] 3 .i64 a.size b.size c.size 200
    obtain ⟨n, rfl⟩ := Int.eq_ofNat_of_zero_le (show 0 ≤ m by omega)
    refine ⟨n, fun W => ?_, by omega, by omega, by omega, by omega⟩
    obtain ⟨m', g1, g2, g3, g4, g5, g6⟩ := run_min4 (P := Tryd.prog) W #[3, 3, 3, 3] 3 .i64 a.size b.size c.size 200
    rw [g1, show m' = (n : Int) by omega]
  obtain ⟨i0, hi, hz0, hz1, hz2⟩ := info_parts infoU8
  obtain ⟨M, hM⟩ : ∃ M, M = madeCells (Value.int .u8 0).cells (((n : Nat) : Int).toNat * i0.size) := ⟨_, rfl⟩
  have hMs : M.size = n := by rw [hM, size_madeCells, hz1]; simp
  have hMl : M.toList = (List.replicate n (0 : Int)).map (Value.int .u8) := by
    have hcl : (Value.int .u8 0).cells = #[Value.int .u8 0] := rfl
    rw [hM, hcl, hz1]
    apply List.ext_getElem
    · simp [madeCells]
    · intro i h1 h2
      simp [madeCells, Nat.mod_one]
  have hmk : ∀ W : World, (Instr.makeSlice 38 (.int .i64 (n : Int)) (.int .i64 (n : Int))).run Tryd.prog W = .ok (.slice (some ⟨W.heap.size, 0, none⟩) n n) (W.alloc (.cells M 5)) := fun W => by
    have h := run_make (P := Tryd.prog) W 38 5 i0 (.int .u8 0) Tryd.underlying38 hi hz0 .i64 .i64 (n : Int) (n : Int) (by omega) (by omega) (by rw [hz2]; omega) (by omega)
    rw [← hM] at h
    simpa using h
  clear hM
  go_enter Tryd.func9, Tryd.ntmps9
  go_wp2_with fail
  refine (sane_any _ HT.out h0).mono ?_; rintro e w1 ⟨rfl, b1⟩
  go_wp2_with fail
  have hown : (w1.alloc (.cells M 5)).ownsRow w1.heap.size 5 1 (.slice (some ⟨w1.heap.size, 0, none⟩) n n) n ((List.replicate n (0 : Int)).map (Value.int .u8)) := by
    rw [← hMl]; exact World.ownsRow_lit w1 M n (Nat.le_refl _) (by unfold maxLen; omega) (by omega)
  have b2 : Below w1.heap.size w1 (w1.alloc (.cells M 5)) := (Below.refl _ _).alloc (Nat.le_refl _) _
  clear hMl hmk hmin
  generalize w1.alloc (.cells M 5) = w2 at *
  go_loopw [10] (fun i wr => ∃ (k : Nat) (xs : List Int), i = .int .i64 k ∧ k ≤ n ∧ xs.length = n ∧ (∀ j, j < k → xs.getD j 0 = xorAt a b c j) ∧ wr.ownsRow w1.heap.size 5 1 (.slice (some ⟨w1.heap.size, 0, none⟩) n n) n (xs.map (Value.int .u8)) ∧ Below w1.heap.size w1 wr) (fun i _ => n - (intOf i).toNat)
  case atStart => exact ⟨0, _, rfl, by omega, by simp, fun j h => by omega, hown, b2⟩
  case round =>
    obtain ⟨k, xs, rfl, hk, hxs, hx, ho, hb2⟩ := hrel
    clear hown b2
    by_cases hlt : k < n
    · have hcell : wr.cell? ⟨w1.heap.size, k, none⟩ = some (.int .u8 (xs.getD k 0)) := by
        rw [ho.cellAt k (by omega), List.getElem?_map, List.getElem?_eq_getElem (by omega), List.getD_eq_getElem?_getD, List.getElem?_eq_getElem (by omega)]; rfl
      have hfr := ho.frozenAt k
      have Hx := Lib.hid hx
      have Hxs := Lib.hid hxs
      clear hx hxs
      obtain ⟨x, hxa⟩ : ∃ x : Nat, a[k].toNat = x := ⟨_, rfl⟩
      obtain ⟨y, hyb⟩ : ∃ y : Nat, b[k].toNat = y := ⟨_, rfl⟩
      obtain ⟨z, hzc⟩ : ∃ z : Nat, c[k].toNat = z := ⟨_, rfl⟩
      have x1 : x < 256 := by have := a[k].toNat_lt; omega
      have y1 : y < 256 := by have := b[k].toNat_lt; omega
      have z1 : z < 256 := by have := c[k].toNat_lt; omega
      have hX : Hid (xorAt a b c k = ((x ^^^ y ^^^ z : Nat) : Int)) := by
        refine Lib.hid ?_
        unfold xorAt; rw [getD_at a k (by omega), getD_at b k (by omega), getD_at c k (by omega), hxa, hyb, hzc]
      have hu1 := u8_xor_nat x y x1 y1
      obtain ⟨p, hp⟩ : ∃ p : Nat, x ^^^ y = p := ⟨_, rfl⟩
      have p1 : p < 256 := by rw [← hp]; exact Nat.xor_lt_two_pow (n := 8) x1 y1
      have hu2 := u8_xor_nat p z p1 z1
      rw [hp] at hu1 hX
      obtain ⟨v, hv⟩ : ∃ v : Nat, p ^^^ z = v := ⟨_, rfl⟩
      rw [hv] at hu2 hX
      have Hp := Lib.hid hp
      have Hv := Lib.hid hv
      clear hp hv
      go_wp2_with fail
      go_region
      go_wp2
      go_roundw
      case rel =>
        refine ⟨k + 1, xs.set k v, by go_num, by omega, by rw [List.length_set]; exact Hxs.out, fun j hj => ?_, ?_, ?_⟩
        · have hl := Hxs.out
          by_cases e : j = k
          · subst e
            rw [List.getD_eq_getElem?_getD, List.getElem?_set_self (by omega), hX.out]; rfl
          · rw [List.getD_eq_getElem?_getD, List.getElem?_set_ne (by omega), ← List.getD_eq_getElem?_getD]
            exact Hx.out j (by omega)
        · have := (ho.stored k (.int .u8 v)).1
          rw [← List.map_set] at this
          exact this.drew
        · exact (hb2.setCell (p := ⟨w1.heap.size, k, none⟩) (Nat.le_refl _) _).drew
      case measure => simp [intOf]; omega
    · obtain rfl : k = n := by omega
      have hrow := row_xor3 a b c k na nb nc xs hxs hx
      have l1 : ((a.extract 0 k).data.toList).length = ((b.extract 0 k).data.toList).length := by rw [extract_list, extract_list]; simp; omega
      have l2 : ((b.extract 0 k).data.toList).length = ((c.extract 0 k).data.toList).length := by rw [extract_list, extract_list]; simp; omega
      have hs := sum_lin _ _ _ l1 l2
      rw [← hrow] at hs
      have s1 := crcSum_lt ((a.extract 0 k).data.toList)
      have s2 := crcSum_lt ((b.extract 0 k).data.toList)
      have s3 := crcSum_lt ((c.extract 0 k).data.toList)
      have hTr : TabAt wr := HT.out.below (bthen b1 hb2) h0
      have Q0 := fun m => sumQ (strOfNums xs) wr m (by rw [strOfNums_size]; omega) hTr
      have Q1 := fun m => sumQ (a.extract 0 k) wr m (by rw [ByteArray.size_extract]; omega) hTr
      have Q2 := fun m => sumQ (b.extract 0 k) wr m (by rw [ByteArray.size_extract]; omega) hTr
      have Q3 := fun m => sumQ (c.extract 0 k) wr m (by rw [ByteArray.size_extract]; omega) hTr
      have hcv := fun m => conv_row (W := wr.drewN m) hxs.symm ho
      generalize crcSum (strOfNums xs).data.toList = R at *
      generalize crcSum (a.extract 0 k).data.toList = A at *
      generalize crcSum (b.extract 0 k).data.toList = B at *
      generalize crcSum (c.extract 0 k).data.toList = C at *
      have hu1 := bits_xor_i64 A B s1 s2
      have p1 : A ^^^ B < 4294967296 := Nat.xor_lt_two_pow (n := 32) s1 s2
      have hu2 := bits_xor_i64 (A ^^^ B) C p1 s3
      rw [← hs] at hu2
      generalize A ^^^ B = p at *
      have hok : Hid (R = p ^^^ C) := Lib.hid hs
      clear hs hx hrow l1 l2 ho hxs
      go_wp2_with fail
      go_quiet ((go_at_call 21; first | with_reducible exact Q0 _ | with_reducible exact Q1 _ | with_reducible exact Q2 _ | with_reducible exact Q3 _))
      go_wp2
      go_ret
      exact ⟨rfl, below_drewN (bthen b1 hb2) _⟩
end Go.Proofs.YtemdfbnfpdfpeaaDoor

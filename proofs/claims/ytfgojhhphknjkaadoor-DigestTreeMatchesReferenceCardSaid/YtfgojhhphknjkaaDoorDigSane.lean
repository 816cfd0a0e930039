/- The fixed examples. -/
import Derived.Test.YtfgojhhphknjkaaDoorDigHex
namespace Go.Proofs.YtfgojhhphknjkaaDoor
open Go.RowKit

def sA : ByteArray := ⟨#[97]⟩
def sB : ByteArray := ⟨#[98]⟩
def sC : ByteArray := ⟨#[99]⟩
def sD : ByteArray := ⟨#[100]⟩
def lA : ByteArray := ⟨#[2, 42, 105, 121, 230, 218, 183, 170, 90, 228, 195, 229, 228, 95, 126, 151, 113, 18, 167, 230, 53, 147, 130, 13, 190, 193, 236, 115, 138, 36, 249, 60]⟩
def lB : ByteArray := ⟨#[87, 235, 53, 97, 93, 71, 243, 78, 199, 20, 202, 205, 245, 253, 116, 96, 138, 94, 142, 16, 39, 36, 232, 11, 36, 178, 135, 192, 194, 123, 106, 49]⟩
def lC : ByteArray := ⟨#[89, 127, 203, 49, 40, 45, 52, 101, 76, 32, 13, 52, 24, 252, 165, 112, 92, 100, 142, 191, 50, 110, 199, 61, 141, 222, 241, 24, 65, 248, 118, 216]⟩
def lD : ByteArray := ⟨#[208, 112, 220, 91, 141, 169, 174, 167, 220, 15, 90, 212, 194, 157, 137, 150, 82, 0, 5, 156, 154, 12, 236, 163, 171, 213, 218, 36, 146, 220, 183, 29]⟩
def nAB : ByteArray := ⟨#[177, 55, 152, 95, 244, 132, 251, 96, 13, 185, 49, 7, 199, 123, 3, 101, 200, 13, 120, 245, 180, 41, 222, 208, 253, 151, 54, 29, 7, 121, 153, 235]⟩
def nR : ByteArray := ⟨#[54, 100, 46, 115, 194, 84, 10, 177, 33, 227, 166, 191, 149, 69, 176, 162, 73, 130, 205, 131, 14, 177, 61, 60, 209, 157, 227, 206, 108, 2, 30, 193]⟩
def nRD : ByteArray := ⟨#[11, 137, 49, 181, 17, 196, 191, 58, 231, 206, 86, 31, 156, 18, 116, 111, 70, 5, 244, 46, 236, 117, 24, 141, 22, 184, 218, 186, 37, 48, 72, 132]⟩
def nNB : ByteArray := ⟨#[174, 64, 140, 162, 195, 118, 124, 82, 232, 115, 100, 129, 196, 94, 120, 216, 153, 5, 120, 176, 239, 140, 226, 106, 139, 116, 103, 128, 205, 233, 151, 16]⟩
def nRB : ByteArray := ⟨#[179, 47, 200, 233, 115, 55, 22, 14, 104, 174, 6, 157, 155, 157, 219, 50, 253, 112, 219, 46, 13, 228, 29, 87, 29, 255, 220, 190, 234, 6, 61, 139]⟩
def zE : ByteArray := ⟨#[227, 176, 196, 66, 152, 252, 28, 20, 154, 251, 244, 200, 153, 111, 185, 36, 39, 174, 65, 228, 100, 155, 147, 76, 164, 149, 153, 27, 120, 82, 184, 85]⟩
def zABC : ByteArray := ⟨#[186, 120, 22, 191, 143, 1, 207, 234, 65, 65, 64, 222, 93, 174, 34, 35, 176, 3, 97, 163, 150, 23, 122, 156, 180, 16, 255, 97, 242, 0, 21, 173]⟩
set_option maxRecDepth 100000 in
theorem lA_eq : leafZ sA = lA := by kernel_rfl
set_option maxRecDepth 100000 in
theorem lB_eq : leafZ sB = lB := by kernel_rfl
set_option maxRecDepth 100000 in
theorem lC_eq : leafZ sC = lC := by kernel_rfl
set_option maxRecDepth 100000 in
theorem lD_eq : leafZ sD = lD := by kernel_rfl
set_option maxRecDepth 100000 in
theorem nAB_eq : nodeZ lA lB = nAB := by kernel_rfl
set_option maxRecDepth 100000 in
theorem nR_eq : nodeZ nAB lC = nR := by kernel_rfl
set_option maxRecDepth 100000 in
theorem nRD_eq : nodeZ nAB lD = nRD := by kernel_rfl
set_option maxRecDepth 100000 in
theorem nNB_eq : nodeZ nAB lB = nNB := by kernel_rfl
set_option maxRecDepth 100000 in
theorem nRB_eq : nodeZ nNB lC = nRB := by kernel_rfl
set_option maxRecDepth 100000 in
theorem zE_eq : sumZ ⟨#[]⟩ = zE := by kernel_rfl
set_option maxRecDepth 100000 in
theorem zABC_eq : sumZ ⟨#[97, 98, 99]⟩ = zABC := by kernel_rfl
set_option maxRecDepth 100000 in
theorem hexE : hexZ zE 32 = ⟨#[101, 51, 98, 48, 99, 52, 52, 50, 57, 56, 102, 99, 49, 99, 49, 52, 57, 97, 102, 98, 102, 52, 99, 56, 57, 57, 54, 102, 98, 57, 50, 52, 50, 55, 97, 101, 52, 49, 101, 52, 54, 52, 57, 98, 57, 51, 52, 99, 97, 52, 57, 53, 57, 57, 49, 98, 55, 56, 53, 50, 98, 56, 53, 53]⟩ := by kernel_rfl
set_option maxRecDepth 100000 in
theorem hexABC : hexZ zABC 32 = ⟨#[98, 97, 55, 56, 49, 54, 98, 102, 56, 102, 48, 49, 99, 102, 101, 97, 52, 49, 52, 49, 52, 48, 100, 101, 53, 100, 97, 101, 50, 50, 50, 51, 98, 48, 48, 51, 54, 49, 97, 51, 57, 54, 49, 55, 55, 97, 57, 99, 98, 52, 49, 48, 102, 102, 54, 49, 102, 50, 48, 48, 49, 53, 97, 100]⟩ := by kernel_rfl

theorem strEq_data (a b : ByteArray) : strEq a b = (a.data.toList == b.data.toList) := by unfold strEq; rw [ByteArray.toList_eq, ByteArray.toList_eq]

theorem split3 : splitZ 3 = 2 := by kernel_rfl
theorem split2 : splitZ 2 = 1 := by kernel_rfl
theorem root_ab : rootZ [sA, sB] = nAB := by
  rw [rootZ_two (by decide) (by decide)]
  rw [show ([sA, sB] : List ByteArray).length = 2 from rfl, split2]
  rw [show ([sA, sB] : List ByteArray).take 1 = [sA] from rfl, show ([sA, sB] : List ByteArray).drop 1 = [sB] from rfl, rootZ_one, rootZ_one, lA_eq, lB_eq, nAB_eq]
theorem root_abc : rootZ [sA, sB, sC] = nR := by
  rw [rootZ_two (by decide) (by decide)]
  rw [show ([sA, sB, sC] : List ByteArray).length = 3 from rfl, split3]
  rw [show ([sA, sB, sC] : List ByteArray).take 2 = [sA, sB] from rfl, show ([sA, sB, sC] : List ByteArray).drop 2 = [sC] from rfl, rootZ_one, root_ab, lC_eq, nR_eq]
theorem path_abc : pathZ [sA, sB, sC] 2 = [nAB] := by
  rw [pathZ_hi (by decide) (by decide) (by rw [show ([sA, sB, sC] : List ByteArray).length = 3 from rfl, split3]; decide)]
  rw [show ([sA, sB, sC] : List ByteArray).length = 3 from rfl, split3]
  rw [show ([sA, sB, sC] : List ByteArray).take 2 = [sA, sB] from rfl, show ([sA, sB, sC] : List ByteArray).drop 2 = [sC] from rfl, pathZ_one rfl, root_ab]; rfl
theorem part_ab : partZ [sA, sB] 1 true = [lB] := by
  rw [partZ_lo (by decide) (by decide) (by decide) (by rw [show ([sA, sB] : List ByteArray).length = 2 from rfl, split2]; decide)]
  rw [show ([sA, sB] : List ByteArray).length = 2 from rfl, split2]
  rw [show ([sA, sB] : List ByteArray).take 1 = [sA] from rfl, show ([sA, sB] : List ByteArray).drop 1 = [sB] from rfl, partZ_all (show 1 = ([sA] : List ByteArray).length from rfl), if_pos rfl, rootZ_one, lB_eq]; rfl
theorem part_abc : partZ [sA, sB, sC] 1 true = [lB, lC] := by
  rw [partZ_lo (by decide) (by decide) (by decide) (by rw [show ([sA, sB, sC] : List ByteArray).length = 3 from rfl, split3]; decide)]
  rw [show ([sA, sB, sC] : List ByteArray).length = 3 from rfl, split3]
  rw [show ([sA, sB, sC] : List ByteArray).take 2 = [sA, sB] from rfl, show ([sA, sB, sC] : List ByteArray).drop 2 = [sC] from rfl, part_ab, rootZ_one, lC_eq]; rfl
theorem verify_c : verifyZ nR 3 2 sC [nAB] = true := by
  unfold verifyZ
  rw [lC_eq]
  rw [show (climbR lC ([nAB] : List ByteArray).reverse (3 : Int).toNat (2 : Int).toNat) = (nodeZ nAB lC, true) by
    show climbR lC [nAB] 3 2 = _
    rw [climbR, if_neg (by decide), if_neg (by rw [split3]; decide), split3]; rfl]
  rw [nR_eq]; simp only [strEq_data]; kernel_rfl
theorem verify_d : verifyZ nR 3 2 sD [nAB] = false := by
  unfold verifyZ
  rw [lD_eq]
  rw [show (climbR lD ([nAB] : List ByteArray).reverse (3 : Int).toNat (2 : Int).toNat) = (nodeZ nAB lD, true) by
    show climbR lD [nAB] 3 2 = _
    rw [climbR, if_neg (by decide), if_neg (by rw [split3]; decide), split3]; rfl]
  rw [nRD_eq]; simp only [strEq_data]; kernel_rfl
theorem join_abc (o : ByteArray) : joinR o ([lB, lC] : List ByteArray).reverse (1 : Int).toNat (3 : Int).toNat true = (o, nodeZ (nodeZ o lB) lC, true) := by
  show joinR o [lC, lB] 1 3 true = _
  rw [joinR, if_neg (by decide), if_neg (by decide), if_pos (by rw [split3]; decide), split3]
  rw [show joinR o [lB] 1 2 true = (o, nodeZ o lB, true) by
    rw [joinR, if_neg (by decide), if_neg (by decide), if_pos (by rw [split2]; decide), split2, joinR_all]; rfl]
theorem vext_a : verifyExtZ lA 1 nR 3 [lB, lC] = true := by
  unfold verifyExtZ
  rw [join_abc, nAB_eq, nR_eq, if_neg (by decide), if_neg (by decide)]; simp only [strEq_data]; kernel_rfl
theorem vext_ab : verifyExtZ nAB 1 nR 3 [lB, lC] = false := by
  unfold verifyExtZ
  rw [join_abc, nNB_eq, nRB_eq, if_neg (by decide), if_neg (by decide)]; simp only [strEq_data]; kernel_rfl

theorem small_abc : Small [sA, sB, sC] := by
  intro s hs
  simp only [List.mem_cons, List.not_mem_nil, or_false] at hs
  rcases hs with rfl | rfl | rfl <;> decide

theorem strsAt_take' {W : World} {p : Option Addr} {ss : List ByteArray} (h : StrsAt W p ss) {ts : List ByteArray} {k : Nat} (e : ss.take k = ts) : StrsAt W p ts := e ▸ h.take k

set_option maxRecDepth 100000 in
set_option maxHeartbeats 2000000 in
theorem sane_any (w : World) (hK : Keyed w) : Calls Tryd.prog 10 #[] w fun e w' => e = .returned (.bool true) ∧ Below w.heap.size w w' := by
  obtain ⟨w0, hw0⟩ : ∃ w0, w0 = w.alloc (.cells #[.string ⟨#[97]⟩, .string ⟨#[98]⟩, .string ⟨#[99]⟩] 9) := ⟨_, rfl⟩
  have a0 : Arr w0 w.heap.size 9 (strv [sA, sB, sC]) := by rw [hw0]; exact Arr.new w _ (strv [sA, sB, sC])
  have b0 : Below w.heap.size w w0 := by rw [hw0]; exact (Below.refl _ w).alloc (Nat.le_refl _) _
  have hK0 := hK.below b0
  have hp0 : StrsAt w0 (some ⟨w.heap.size, 0, none⟩) [sA, sB, sC] := fun i hi => ⟨w.heap.size, 0, rfl, by rw [Nat.zero_add]; exact a0.cell (by rw [strv, List.getElem?_map, List.getElem?_eq_getElem hi]; rfl)⟩
  have c1 := proof_in [sA, sB, sC] 2 (some ⟨w.heap.size, 0, none⟩) 3 w0 (by decide) (by decide) (by decide) (by omega) hp0 small_abc hK0
  rw [path_abc] at c1
  change Calls Tryd.prog 12 #[.slice (some ⟨w.heap.size, 0, none⟩) 3 3, .int .i64 2] w0 _ at c1
  go_enter Tryd.func10, Tryd.ntmps10
  go_wp2_with fail
  rw [← hw0]
  refine c1.mono ?_
  rintro e w1 ⟨v1, rfl, own1, b1⟩
  clear c1
  obtain ⟨g1, cap1, rfl⟩ := ownsRow_succ own1
  have hp1 : StrsAt w1 (some ⟨g1, 0, none⟩) [nAB] := strsAt_own own1
  have c2 := ext_in [sA, sB, sC] 1 (some ⟨w.heap.size, 0, none⟩) 3 w1 (by decide) (by decide) (by decide) (by decide) (by omega) (hp0.below b1) small_abc (hK0.below b1)
  rw [part_abc] at c2
  change Calls Tryd.prog 14 #[.slice (some ⟨w.heap.size, 0, none⟩) 3 3, .int .i64 1] w1 _ at c2
  go_wp2_with fail
  refine c2.mono ?_
  rintro e w2 ⟨v2, rfl, own2, b2⟩
  clear c2
  obtain ⟨g2, cap2, rfl⟩ := ownsRow_succ (k := 1) own2
  have hp2 : StrsAt w2 (some ⟨g2, 0, none⟩) [lB, lC] := strsAt_own own2
  have m1 : 1 ≤ cap1 ∧ cap1 ≤ 9223372036854775807 := by
    rcases own1.2 with ⟨h, _⟩ | ⟨g, c, cur, h, _, _, h1, h2, _⟩
    · cases h
    · cases h; unfold maxLen at h2; exact ⟨h1, h2⟩
  have m2 : 2 ≤ cap2 ∧ cap2 ≤ 9223372036854775807 := by
    rcases own2.2 with ⟨h, _⟩ | ⟨g, c, cur, h, _, _, h1, h2, _⟩
    · cases h
    · cases h; unfold maxLen at h2; exact ⟨h1, h2⟩
  have hq0 := (hp0.below b1).below b2
  have hq1 := hp1.below b2
  have K2 := (hK0.below b1).below b2
  have B2 : Below w.heap.size w w2 := (b0.trans (b1.mono b0.size)).trans (b2.mono (Nat.le_trans b0.size b1.size))
  clear own1 own2 hp1 hp0 hK0 a0 b1 b0
  have sm1 : Small [nAB] := fun s hs => by simp only [List.mem_cons, List.not_mem_nil, or_false] at hs; subst hs; decide
  have sm2 : Small [lB, lC] := fun s hs => by simp only [List.mem_cons, List.not_mem_nil, or_false] at hs; rcases hs with rfl | rfl <;> decide
  have cO : ∀ W, Calls Tryd.prog 12 #[.slice (some ⟨w.heap.size, 0, none⟩) 3 3, .int .i64 3] W fun e w' => e = .returned (.tuple #[.slice none 0 0, .int .i64 2]) ∧ W = w' := fun W => proof_out 3 3 _ 3 W (by omega) (by omega) (by omega) (by omega)
  have cR3 : ∀ W, Below w2.heap.size w2 W → Calls Tryd.prog 17 #[.slice (some ⟨w.heap.size, 0, none⟩) 3 3] W fun e w' => e = .returned (.string nR) ∧ Below W.heap.size W w' := fun W hb => root_abc ▸ root_any 3 [sA, sB, sC] (some ⟨w.heap.size, 0, none⟩) 3 W (by decide) (by decide) (by decide) (by omega) (hq0.below hb) small_abc (K2.below hb)
  have cR1 : ∀ W, Below w2.heap.size w2 W → Calls Tryd.prog 17 #[.slice (some ⟨w.heap.size, 0, none⟩) 1 3] W fun e w' => e = .returned (.string lA) ∧ Below W.heap.size W w' := fun W hb => (show rootZ [sA] = lA by rw [rootZ_one, lA_eq]) ▸ root_any 3 [sA] (some ⟨w.heap.size, 0, none⟩) 3 W (by decide) (by decide) (by decide) (by omega) (strsAt_take' (k := 1) (hq0.below hb) rfl) (small_abc.take 1) (K2.below hb)
  have cR2 : ∀ W, Below w2.heap.size w2 W → Calls Tryd.prog 17 #[.slice (some ⟨w.heap.size, 0, none⟩) 2 3] W fun e w' => e = .returned (.string nAB) ∧ Below W.heap.size W w' := fun W hb => root_ab ▸ root_any 3 [sA, sB] (some ⟨w.heap.size, 0, none⟩) 3 W (by decide) (by decide) (by decide) (by omega) (strsAt_take' (k := 2) (hq0.below hb) rfl) (small_abc.take 2) (K2.below hb)
  have cS0 : ∀ W, Below w2.heap.size w2 W → Calls Tryd.prog 25 #[.string ⟨#[]⟩] W fun e w' => e = .returned (.string zE) ∧ Below W.heap.size W w' := fun W hb => zE_eq ▸ Sum_any ⟨#[]⟩ W (by decide) (K2.below hb)
  have cS1 : ∀ W, Below w2.heap.size w2 W → Calls Tryd.prog 25 #[.string ⟨#[97, 98, 99]⟩] W fun e w' => e = .returned (.string zABC) ∧ Below W.heap.size W w' := fun W hb => zABC_eq ▸ Sum_any ⟨#[97, 98, 99]⟩ W (by decide) (K2.below hb)
  have cH0 : ∀ W, Calls Tryd.prog 30 #[.string zE] W fun e w' => e = .returned (.string ⟨#[101, 51, 98, 48, 99, 52, 52, 50, 57, 56, 102, 99, 49, 99, 49, 52, 57, 97, 102, 98, 102, 52, 99, 56, 57, 57, 54, 102, 98, 57, 50, 52, 50, 55, 97, 101, 52, 49, 101, 52, 54, 52, 57, 98, 57, 51, 52, 99, 97, 52, 57, 53, 57, 57, 49, 98, 55, 56, 53, 50, 98, 56, 53, 53]⟩) ∧ Below W.heap.size W w' := fun W => hexE ▸ hex_any zE W (by decide)
  have cH1 : ∀ W, Calls Tryd.prog 30 #[.string zABC] W fun e w' => e = .returned (.string ⟨#[98, 97, 55, 56, 49, 54, 98, 102, 56, 102, 48, 49, 99, 102, 101, 97, 52, 49, 52, 49, 52, 48, 100, 101, 53, 100, 97, 101, 50, 50, 50, 51, 98, 48, 48, 51, 54, 49, 97, 51, 57, 54, 49, 55, 55, 97, 57, 99, 98, 52, 49, 48, 102, 102, 54, 49, 102, 50, 48, 48, 49, 53, 97, 100]⟩) ∧ Below W.heap.size W w' := fun W => hexABC ▸ hex_any zABC W (by decide)
  have cV1 : ∀ W, Below w2.heap.size w2 W → Calls Tryd.prog 20 #[.string nR, .int .i64 3, .int .i64 2, .string ⟨#[99]⟩, .slice (some ⟨g1, 0, none⟩) 1 cap1] W fun e w' => e = .returned (.bool true) ∧ Below W.heap.size W w' := fun W hb => verify_c ▸ verify_any nR 3 2 sC [nAB] (some ⟨g1, 0, none⟩) cap1 W (by omega) (by omega) (by omega) (by omega) (by decide) (by decide) m1.1 m1.2 (hq1.below hb) sm1 (K2.below hb)
  have cV2 : ∀ W, Below w2.heap.size w2 W → Calls Tryd.prog 20 #[.string nR, .int .i64 3, .int .i64 2, .string ⟨#[100]⟩, .slice (some ⟨g1, 0, none⟩) 1 cap1] W fun e w' => e = .returned (.bool false) ∧ Below W.heap.size W w' := fun W hb => verify_d ▸ verify_any nR 3 2 sD [nAB] (some ⟨g1, 0, none⟩) cap1 W (by omega) (by omega) (by omega) (by omega) (by decide) (by decide) m1.1 m1.2 (hq1.below hb) sm1 (K2.below hb)
  have cX1 : ∀ W, Below w2.heap.size w2 W → Calls Tryd.prog 21 #[.string lA, .int .i64 1, .string nR, .int .i64 3, .slice (some ⟨g2, 0, none⟩) 2 cap2] W fun e w' => e = .returned (.bool true) ∧ Below W.heap.size W w' := fun W hb => vext_a ▸ verifyExt_any lA 1 nR 3 [lB, lC] (some ⟨g2, 0, none⟩) cap2 W (by omega) (by omega) (by omega) (by omega) (by decide) (by decide) (by decide) m2.1 m2.2 (hp2.below hb) sm2 (K2.below hb)
  have cX2 : ∀ W, Below w2.heap.size w2 W → Calls Tryd.prog 21 #[.string nAB, .int .i64 1, .string nR, .int .i64 3, .slice (some ⟨g2, 0, none⟩) 2 cap2] W fun e w' => e = .returned (.bool false) ∧ Below W.heap.size W w' := fun W hb => vext_ab ▸ verifyExt_any nAB 1 nR 3 [lB, lC] (some ⟨g2, 0, none⟩) cap2 W (by omega) (by omega) (by omega) (by omega) (by decide) (by decide) (by decide) m2.1 m2.2 (hp2.below hb) sm2 (K2.below hb)
  clear hq0 hq1 hp2 K2 sm1 sm2 m1 m2
  have L1 : ([] : List ByteArray).length + 1 = 1 := rfl
  have hB := Below.refl w2.heap.size w2
  have x1 : ((1 : Int) == 1) = true := rfl
  go_wp2_with (first
    | (go_at_call 12; with_reducible refine Calls.mono (cO _) ?_; rintro e w3 ⟨rfl, rfl⟩)
    | (go_at_call 17; first | (with_reducible refine Calls.mono (cR3 _ hB) ?_; rintro e w3 ⟨rfl, b3⟩; replace hB := bthen hB b3) | (with_reducible refine Calls.mono (cR1 _ hB) ?_; rintro e w3 ⟨rfl, b3⟩; replace hB := bthen hB b3) | (with_reducible refine Calls.mono (cR2 _ hB) ?_; rintro e w3 ⟨rfl, b3⟩; replace hB := bthen hB b3) | fail)
    | (go_at_call 25; first | (with_reducible refine Calls.mono (cS0 _ hB) ?_; rintro e w3 ⟨rfl, b3⟩; replace hB := bthen hB b3) | (with_reducible refine Calls.mono (cS1 _ hB) ?_; rintro e w3 ⟨rfl, b3⟩; replace hB := bthen hB b3) | fail)
    | (go_at_call 30; first | (with_reducible refine Calls.mono (cH0 _) ?_; rintro e w3 ⟨rfl, b3⟩; replace hB := bthen hB b3) | (with_reducible refine Calls.mono (cH1 _) ?_; rintro e w3 ⟨rfl, b3⟩; replace hB := bthen hB b3) | fail)
    | (go_at_call 20; first | (with_reducible refine Calls.mono (cV1 _ hB) ?_; rintro e w3 ⟨rfl, b3⟩; replace hB := bthen hB b3) | (with_reducible refine Calls.mono (cV2 _ hB) ?_; rintro e w3 ⟨rfl, b3⟩; replace hB := bthen hB b3) | fail)
    | (go_at_call 21; first | (with_reducible refine Calls.mono (cX1 _ hB) ?_; rintro e w3 ⟨rfl, b3⟩; replace hB := bthen hB b3) | (with_reducible refine Calls.mono (cX2 _ hB) ?_; rintro e w3 ⟨rfl, b3⟩; replace hB := bthen hB b3) | fail)
    | fail)
  go_ret
  exact ⟨rfl, B2.trans (hB.mono B2.size)⟩
end Go.Proofs.YtfgojhhphknjkaaDoor

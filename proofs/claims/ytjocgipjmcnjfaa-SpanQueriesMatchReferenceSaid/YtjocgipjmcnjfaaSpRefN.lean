/- The reference: Normal, Union, Same. -/
import Derived.Test.YtjocgipjmcnjfaaSpAdd
import Derived.Test.YtjocgipjmcnjfaaSpLawB
namespace Go.Proofs.Ytjocgipjmcnjfaa
open Go.RowKit

theorem addS_len (l : List (Int × Int)) (s : Int × Int) : (addS l s).length ≤ l.length + 1 := by
  unfold addS
  split
  · omega
  · have := addRun_len l [] s []
    unfold addFin
    simp at this ⊢; omega
theorem addAll_len (d : List (Int × Int)) : ∀ acc : List (Int × Int), (d.foldl addS acc).length ≤ acc.length + d.length := by
  induction d with
  | nil => intro acc; simp
  | cons s d ih => intro acc; rw [List.foldl_cons]; have := ih (addS acc s); have := addS_len acc s; simp; omega

set_option maxRecDepth 100000 in
set_option maxHeartbeats 2000000 in
theorem rnorm_any (p : Option Addr) (cap : Nat) (l : List (Int × Int)) (w : World) (hS : ShAt w w.heap.size p l) (hlen : l.length ≤ 10000) :
    Calls Try.prog 15 #[.slice p l.length cap] w (Sl w (nrmZ l)) := by
  obtain ⟨V, hV⟩ : ∃ V, nrmZ l = V := ⟨_, rfl⟩
  rw [hV]
  have HV := Lib.hid hV; clear hV
  obtain ⟨m, hm⟩ : ∃ m, l.length = m := ⟨_, rfl⟩
  have HM := Lib.hid hm
  rw [hm] at hlen ⊢
  clear hm
  go_enter Try.func15, Try.ntmps15
  go_wp2_with fail
  go_loopw [3, 4] (fun s3 s4 wr => ∃ (k : Nat) (q : Option Addr) (c : Nat), s3 = .slice q ((l.take k).foldl addS []).length c ∧ s4 = .int .i64 k ∧ k ≤ m ∧ ShAt wr wr.heap.size q ((l.take k).foldl addS []) ∧ Below w.heap.size w wr) (fun _ s4 _ => m - (intOf s4).toNat)
  case atStart => exact ⟨0, none, 0, rfl, rfl, Nat.zero_le _, ShAt.nil _ _ _, Below.refl _ _⟩
  case round =>
    obtain ⟨k, q, c, rfl, rfl, hk, hq, hb⟩ := hrel
    have hmm := HM.out
    by_cases hlt : k < m
    · obtain ⟨bl, o, rfl, hbl, q0, q1⟩ := (hS.below hb) k (by omega)
      have hst : (l.take (k + 1)).foldl addS [] = addS ((l.take k).foldl addS []) (l.getD k (0, 0)) := by rw [List.take_succ_eq_append_getElem (by omega), List.foldl_append, getD_at (by omega)]; rfl
      have hal := addAll_len (l.take k) []
      have hlk : (l.take k).length ≤ 10000 := by rw [List.length_take]; omega
      generalize (l.take k).foldl addS [] = L at hq hst hal ⊢
      obtain ⟨X, hX⟩ : ∃ X, l.getD k (0, 0) = X := ⟨_, rfl⟩
      rw [hX] at q0 q1 hst
      obtain ⟨x, y⟩ := X
      dsimp only at q0 q1
      have hadd := radd_any x y q c L wr hq (by simp at hal; omega)
      generalize addS L (x, y) = L' at hadd hst
      have HST := Lib.hid hst
      have hidx : (k : Int) * 2 = ((k * 2 : Nat) : Int) := by omega
      have hsz := hb.size
      clear hX hst hal hlk hq hmm hS
      go_wp2_with fail
      refine hadd.mono ?_
      rintro e w5 ⟨p5, c5, rfl, S5, b5⟩
      go_wp2_with fail
      exact ⟨⟨k + 1, p5, c5, by rw [HST.out], by go_num, by omega, by rw [HST.out]; exact S5, hb.trans (b5.mono hsz)⟩, by simp [intOf] <;> omega⟩
    · obtain rfl : k = m := by omega
      have hfin : (l.take k).foldl addS [] = V := by rw [List.take_of_length_le (by omega)]; exact HV.out
      rw [hfin] at hq ⊢
      have HQ := Lib.hid hq
      clear hq hS hfin hmm
      go_wp2_with fail
      go_ret
      exact ⟨_, _, rfl, HQ.out, hb⟩

set_option maxRecDepth 100000 in
set_option maxHeartbeats 2000000 in
theorem runion_any (p q : Option Addr) (cp cq : Nat) (a b : List (Int × Int)) (w : World) (hA : ShAt w w.heap.size p a) (hB : ShAt w w.heap.size q b) (hla : a.length ≤ 5000) (hlb : b.length ≤ 5000) :
    Calls Try.prog 23 #[.slice p a.length cp, .slice q b.length cq] w (Sl w (uniZ a b)) := by
  have hn := rnorm_any p cp a w hA (by omega)
  have hnl := nrm_len a
  unfold uniZ
  generalize nrmZ a = A at hn hnl ⊢
  obtain ⟨V, hV⟩ : ∃ V, b.foldl addS A = V := ⟨_, rfl⟩
  rw [hV]
  have HV := Lib.hid hV; clear hV
  obtain ⟨m, hm⟩ : ∃ m, b.length = m := ⟨_, rfl⟩
  have HM := Lib.hid hm
  rw [hm] at hlb ⊢
  clear hm hA
  go_enter Try.func23, Try.ntmps23
  go_wp2_with fail
  refine hn.mono ?_
  rintro e w1 ⟨p1, c1, rfl, S1, b1⟩
  have hB1 := hB.below b1
  have z1 := b1.size
  clear hn hB
  go_wp2_with fail
  go_loopw [5, 6] (fun s3 s4 wr => ∃ (k : Nat) (q : Option Addr) (c : Nat), s3 = .slice q ((b.take k).foldl addS A).length c ∧ s4 = .int .i64 k ∧ k ≤ m ∧ ShAt wr wr.heap.size q ((b.take k).foldl addS A) ∧ Below w1.heap.size w1 wr) (fun _ s4 _ => m - (intOf s4).toNat)
  case atStart => exact ⟨0, p1, c1, rfl, rfl, Nat.zero_le _, S1, Below.refl _ _⟩
  case round =>
    obtain ⟨k, q, c, rfl, rfl, hk, hq, hb⟩ := hrel
    have hmm := HM.out
    by_cases hlt : k < m
    · obtain ⟨bl, o, rfl, hbl, q0, q1⟩ := (hB1.below (hb.mono z1)) k (by omega)
      have hst : (b.take (k + 1)).foldl addS A = addS ((b.take k).foldl addS A) (b.getD k (0, 0)) := by rw [List.take_succ_eq_append_getElem (by omega), List.foldl_append, getD_at (by omega)]; rfl
      have hal := addAll_len (b.take k) A
      have hlk : (b.take k).length ≤ 5000 := by rw [List.length_take]; omega
      generalize (b.take k).foldl addS A = L at hq hst hal ⊢
      obtain ⟨X, hX⟩ : ∃ X, b.getD k (0, 0) = X := ⟨_, rfl⟩
      rw [hX] at q0 q1 hst
      obtain ⟨x, y⟩ := X
      dsimp only at q0 q1
      have hadd := radd_any x y q c L wr hq (by omega)
      generalize addS L (x, y) = L' at hadd hst
      have HST := Lib.hid hst
      have hidx : (k : Int) * 2 = ((k * 2 : Nat) : Int) := by omega
      have hsz := hb.size
      clear hX hst hal hlk hq hmm hB1 S1
      go_wp2_with fail
      refine hadd.mono ?_
      rintro e w5 ⟨p5, c5, rfl, S5, b5⟩
      go_wp2_with fail
      exact ⟨⟨k + 1, p5, c5, by rw [HST.out], by go_num, by omega, by rw [HST.out]; exact S5, hb.trans (b5.mono hsz)⟩, by simp [intOf] <;> omega⟩
    · obtain rfl : k = m := by omega
      have hfin : (b.take k).foldl addS A = V := by rw [List.take_of_length_le (by omega)]; exact HV.out
      rw [hfin] at hq ⊢
      have HQ := Lib.hid hq
      clear hq hB1 S1 hfin hmm
      go_wp2_with fail
      go_ret
      exact ⟨_, _, rfl, HQ.out, bthen b1 hb⟩

set_option maxRecDepth 100000 in
set_option maxHeartbeats 2000000 in
theorem rsame_any (p q : Option Addr) (cp cq : Nat) (a b : List (Int × Int)) (w : World) (hA : ShAt w w.heap.size p a) (hB : ShAt w w.heap.size q b) (ha : a.length ≤ 10000) (hb : b.length ≤ 10000) :
    Calls Try.prog 19 #[.slice p a.length cp, .slice q b.length cq] w fun e w' => e = .returned (.bool (decide (nrmZ a = nrmZ b))) ∧ Below w.heap.size w w' := by
  have h1 := rnorm_any p cp a w hA ha
  have h2 := fun W (h : Below w.heap.size w W) => rnorm_any q cq b W (hB.into h) hb
  have h3 := fun p q cp cq W hA hB => requal_any p q cp cq (nrmZ a) (nrmZ b) W hA hB (by have := nrm_len a; omega) (by have := nrm_len b; omega)
  generalize nrmZ a = A at h1 h3 ⊢
  generalize nrmZ b = B at h2 h3 ⊢
  clear hA hB
  obtain ⟨V, hV⟩ : ∃ V, decide (A = B) = V := ⟨_, rfl⟩
  rw [hV] at h3 ⊢
  clear hV
  go_enter Try.func19, Try.ntmps19
  go_wp2_with fail
  refine h1.mono ?_
  rintro e w1 ⟨p1, c1, rfl, hS1, b1⟩
  go_wp2_with fail
  refine (h2 _ b1).mono ?_
  rintro e w2 ⟨p2, c2, rfl, hS2, b2⟩
  go_wp2_with fail
  refine (h3 p1 p2 c1 c2 _ (hS1.into b2) hS2).mono ?_
  rintro e w3 ⟨rfl, b3⟩
  go_wp2_with fail
  go_ret
  exact ⟨rfl, bthen (bthen b1 b2) b3⟩
end Go.Proofs.Ytjocgipjmcnjfaa

/- The reference: Intersect. -/
import Derived.Test.YtjocgipjmcnjfaaSpRefN
import Derived.Deep.RegionHeld3
namespace Go.Proofs.Ytjocgipjmcnjfaa
open Go.RowKit

theorem inv4 {P Q R S : Prop} {n : Nat} {v W : World} (h : P ∧ Q ∧ R ∧ S ∧ Below n v W) : Below n v W := h.2.2.2.2
theorem held4 {W W' W'' : World} {a b c d : Addr} {x y z u : Value} {n : Nat} (hS : W'.cell? a = some x ∧ W'.cell? b = some y ∧ W'.cell? c = some z ∧ W'.cell? d = some u ∧ Below n W W') (ha : a.block < W.heap.size) (hb : b.block < W.heap.size) (hc : c.block < W.heap.size) (hd : d.block < W.heap.size) (hn : n ≤ W.heap.size) (bb : Below W'.heap.size W' W'') :
    W''.cell? a = some x ∧ W''.cell? b = some y ∧ W''.cell? c = some z ∧ W''.cell? d = some u ∧ Below n W W'' := by
  have hs := hS.2.2.2.2.size
  exact ⟨(bb.cell (by omega)).trans hS.1, (bb.cell (by omega)).trans hS.2.1, (bb.cell (by omega)).trans hS.2.2.1, (bb.cell (by omega)).trans hS.2.2.2.1, hS.2.2.2.2.trans (bb.mono (by omega))⟩

theorem intRow_len (s : Int × Int) (b : List (Int × Int)) : ∀ acc : List (Int × Int), (intRow b acc s).length ≤ acc.length + b.length := by
  induction b with
  | nil => intro acc; simp [intRow]
  | cons t b ih => intro acc; have := ih (addS acc (max s.1 t.1, min s.2 t.2)); have := addS_len acc (max s.1 t.1, min s.2 t.2); show (intRow b (addS acc (max s.1 t.1, min s.2 t.2)) s).length ≤ _; simp; omega
theorem intAll_len (b : List (Int × Int)) (hb : b.length ≤ 60) (l : List (Int × Int)) : ∀ acc : List (Int × Int), (l.foldl (intRow b) acc).length ≤ acc.length + l.length * 60 := by
  induction l with
  | nil => intro acc; simp
  | cons s l ih => intro acc; rw [List.foldl_cons]; have := ih (intRow b acc s); have := intRow_len s b acc; simp; omega

set_option maxRecDepth 100000 in
set_option maxHeartbeats 4000000 in
theorem rinter_any (p q : Option Addr) (cp cq : Nat) (a b : List (Int × Int)) (w : World) (hA : ShAt w w.heap.size p a) (hB : ShAt w w.heap.size q b) (hla : a.length ≤ 60) (hlb : b.length ≤ 60) :
    Calls Try.prog 25 #[.slice p a.length cp, .slice q b.length cq] w (Sl w (intZ a b)) := by
  unfold intZ
  obtain ⟨V, hV⟩ : ∃ V, a.foldl (intRow b) [] = V := ⟨_, rfl⟩
  rw [hV]
  have HV := Lib.hid hV; clear hV
  have hlb' := hlb
  obtain ⟨ma, hma⟩ : ∃ m, a.length = m := ⟨_, rfl⟩
  obtain ⟨mb, hmb⟩ : ∃ m, b.length = m := ⟨_, rfl⟩
  have HMA := Lib.hid hma
  have HMB := Lib.hid hmb
  have HLB := Lib.hid hlb'
  rw [hma] at hla ⊢
  rw [hmb] at hlb ⊢
  clear hma hmb hlb'
  go_enter Try.func25, Try.ntmps25
  go_wp2_with fail
  go_loopw [5, 6] (fun s3 s4 wr => ∃ (i : Nat) (r : Option Addr) (c : Nat), s3 = .slice r ((a.take i).foldl (intRow b) []).length c ∧ s4 = .int .i64 i ∧ i ≤ ma ∧ ShAt wr wr.heap.size r ((a.take i).foldl (intRow b) []) ∧ Below w.heap.size w wr) (fun _ s4 _ => ma - (intOf s4).toNat)
  case atStart => exact ⟨0, none, 0, rfl, rfl, Nat.zero_le _, ShAt.nil _ _ _, Below.refl _ _⟩
  case round =>
    obtain ⟨i, r, c, rfl, rfl, hi, hr, hb⟩ := hrel
    have hmm := HMA.out
    by_cases hlt : i < ma
    · obtain ⟨b1, o1, rfl, hbl1, q0, q1⟩ := (hA.below hb) i (by omega)
      have hst : (a.take (i + 1)).foldl (intRow b) [] = intRow b ((a.take i).foldl (intRow b) []) (a.getD i (0, 0)) := by rw [List.take_succ_eq_append_getElem (by omega), List.foldl_append, getD_at (by omega)]; rfl
      have hal := intAll_len b HLB.out (a.take i) []
      have hlk : (a.take i).length ≤ 60 := by rw [List.length_take]; omega
      generalize (a.take i).foldl (intRow b) [] = L at hr hst hal ⊢
      obtain ⟨X, hX⟩ : ∃ X, a.getD i (0, 0) = X := ⟨_, rfl⟩
      rw [hX] at q0 q1 hst
      obtain ⟨x, y⟩ := X
      dsimp only at q0 q1
      have hL : L.length ≤ 3600 := by simp at hal; omega
      have HST := Lib.hid hst
      have hidx : (i : Int) * 2 = ((i * 2 : Nat) : Int) := by omega
      have hil : (i : Int) < (ma : Int) := by omega
      have hsz := hb.size
      have HA := Lib.hid hA
      clear hX hst hal hlk hmm hA
      obtain ⟨wo, rfl⟩ : ∃ W, W = wr := ⟨_, rfl⟩
      go_wp2_with fail
      go_loopw [5, 7] (fun s3 s7 w2 => ∃ (k : Nat) (r : Option Addr) (c : Nat), s3 = .slice r (intRow (b.take k) L (x, y)).length c ∧ s7 = .int .i64 k ∧ k ≤ mb ∧ ShAt w2 w2.heap.size r (intRow (b.take k) L (x, y)) ∧ Below wo.heap.size wo w2) (fun _ s7 _ => mb - (intOf s7).toNat)
      case atStart => exact ⟨0, r, c, rfl, rfl, Nat.zero_le _, hr, Below.refl _ _⟩
      case round =>
        clear hr
        obtain ⟨k, r, c, rfl, rfl, hk, hr, hb2⟩ := hrel
        have hmm := HMB.out
        have hsz2 := hb2.size
        by_cases hlt2 : k < mb
        · obtain ⟨b2, o2, rfl, hbl2, r0, r1⟩ := (hB.below (hb.trans (hb2.mono hsz))) k (by omega)
          have hst2 : intRow (b.take (k + 1)) L (x, y) = addS (intRow (b.take k) L (x, y)) (max x (b.getD k (0, 0)).1, min y (b.getD k (0, 0)).2) := by unfold intRow; rw [List.take_succ_eq_append_getElem (by omega), List.foldl_append, getD_at (by omega)]; rfl
          have hrl := intRow_len (x, y) (b.take k) L
          have hbk : (b.take k).length ≤ 60 := by rw [List.length_take]; omega
          generalize intRow (b.take k) L (x, y) = R at hr hst2 hrl ⊢
          obtain ⟨Y, hY⟩ : ∃ X, b.getD k (0, 0) = X := ⟨_, rfl⟩
          rw [hY] at r0 r1 hst2
          obtain ⟨u, v⟩ := Y
          dsimp only at r0 r1 hst2
          have hRl : R.length ≤ 20000 := by omega
          have hadd := fun W (h : Below wr.heap.size wr W) => radd_any (max x u) (min y v) r c R W (hr.into h) hRl
          generalize addS R (max x u, min y v) = R' at hst2 hadd
          have HST2 := Lib.hid hst2
          have HB := Lib.hid hB
          have hidx2 : (k : Int) * 2 = ((k * 2 : Nat) : Int) := by omega
          have hkl : (k : Int) < (mb : Int) := by omega
          have q0 : wr.cell? ⟨b1, o1 + i * 2, none⟩ = some (iv x) := (hb2.cell (p := ⟨b1, _, none⟩) (by simp; omega)).trans q0
          have q1 : wr.cell? ⟨b1, o1 + i * 2 + 1, none⟩ = some (iv y) := (hb2.cell (p := ⟨b1, _, none⟩) (by simp; omega)).trans q1
          have g1 : b1 < wr.heap.size := by omega
          have g2 : b2 < wr.heap.size := by omega
          have hst : wr.drew.cell? ⟨b1, o1 + i * 2, none⟩ = some (iv x) ∧ wr.drew.cell? ⟨b1, o1 + i * 2 + 1, none⟩ = some (iv y) ∧ wr.drew.cell? ⟨b2, o2 + k * 2, none⟩ = some (iv u) ∧ wr.drew.cell? ⟨b2, o2 + k * 2 + 1, none⟩ = some (iv v) ∧ Below wr.heap.size wr wr.drew := ⟨q0, q1, r0, r1, (Below.refl _ _).drew⟩
          clear hY hst2 hrl hbk hr hmm hB
          go_wp2_with fail
          go_region_held3 (fun w' => w'.cell? ⟨b1, o1 + i * 2, none⟩ = some (iv x) ∧ w'.cell? ⟨b1, o1 + i * 2 + 1, none⟩ = some (iv y) ∧ w'.cell? ⟨b2, o2 + k * 2, none⟩ = some (iv u) ∧ w'.cell? ⟨b2, o2 + k * 2 + 1, none⟩ = some (iv v) ∧ Below wr.heap.size wr w') (first | assumption | exact hst | exact held4 (a := ⟨b1, o1 + i * 2, none⟩) (b := ⟨b1, o1 + i * 2 + 1, none⟩) (c := ⟨b2, o2 + k * 2, none⟩) (d := ⟨b2, o2 + k * 2 + 1, none⟩) (by assumption) g1 g1 g2 g2 (Nat.le_refl _) b6 | fail)
            (first | (go_at_call 43; (with_reducible refine Calls.mono (hadd _ (inv4 (by assumption))) ?_); rintro e w6 ⟨p6, c6, rfl, S6, b6⟩) | fail)
          all_goals
            rename_i hHeld
            have b26 := inv4 hHeld
            clear hst hHeld
            go_wp2_with fail
            exact ⟨⟨k + 1, p6, c6, by rw [HST2.out], by go_num, by omega, by rw [HST2.out]; exact S6, hb2.trans (b26.mono hsz2)⟩, by simp [intOf] <;> omega⟩
        · obtain rfl : k = mb := by omega
          have hfin : intRow (b.take k) L (x, y) = intRow b L (x, y) := by rw [List.take_of_length_le (by omega)]
          rw [hfin, ← HST.out] at hr ⊢
          have HR := Lib.hid hr
          clear hr hfin hmm hB
          go_wp2_with fail
          exact ⟨⟨i + 1, r, c, rfl, by go_num, by omega, HR.out, hb.trans (hb2.mono hsz)⟩, by simp [intOf] <;> omega⟩
    · obtain rfl : i = ma := by omega
      have hfin : (a.take i).foldl (intRow b) [] = V := by rw [List.take_of_length_le (by omega)]; exact HV.out
      rw [hfin] at hr ⊢
      have HR := Lib.hid hr
      clear hr hfin hmm hA hB
      go_wp2_with fail
      go_ret
      exact ⟨_, _, rfl, HR.out, hb⟩
end Go.Proofs.Ytjocgipjmcnjfaa

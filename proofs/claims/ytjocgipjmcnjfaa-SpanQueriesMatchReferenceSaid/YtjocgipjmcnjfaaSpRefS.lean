/- The reference: Subtract. -/
import Derived.Test.YtjocgipjmcnjfaaSpRefI
import Derived.Test.YtjocgipjmcnjfaaSpAlgM
namespace Go.Proofs.Ytjocgipjmcnjfaa
open Go.RowKit

theorem subRow_len (t : Int × Int) (l : List (Int × Int)) : ∀ acc : List (Int × Int), (l.foldl (subRow t) acc).length ≤ acc.length + l.length * 2 := by
  induction l with
  | nil => intro acc; simp
  | cons s l ih =>
    intro acc
    rw [List.foldl_cons]
    have h1 := ih (subRow t acc s)
    have h2 := addS_len (addS acc (s.1, min s.2 t.1)) (max s.1 t.2, s.2)
    have h3 := addS_len acc (s.1, min s.2 t.1)
    have h4 : (subRow t acc s).length ≤ acc.length + 2 := by unfold subRow; omega
    simp; omega
theorem sub_take {a b : List (Int × Int)} (ha : Bd a) (hb : Bd b) (k : Nat) : ((b.take k).foldl subOne (nrmZ a)).length ≤ 2 * (a.length + b.length) := by
  have h := sub_len ha (hb.take k)
  unfold subZ at h
  have : (b.take k).length ≤ b.length := by rw [List.length_take]; omega
  omega

set_option maxRecDepth 100000 in
set_option maxHeartbeats 4000000 in
theorem rsub_any (p q : Option Addr) (cp cq : Nat) (a b : List (Int × Int)) (w : World) (hA : ShAt w w.heap.size p a) (hB : ShAt w w.heap.size q b) (hla : a.length ≤ 60) (hlb : b.length ≤ 60) (hba : Bd a) (hbb : Bd b) :
    Calls Try.prog 27 #[.slice p a.length cp, .slice q b.length cq] w (Sl w (subZ a b)) := by
  have hn := rnorm_any p cp a w hA (by omega)
  have hlen := fun k => sub_take hba hbb k
  unfold subZ
  generalize nrmZ a = A at hn hlen ⊢
  obtain ⟨V, hV⟩ : ∃ V, b.foldl subOne A = V := ⟨_, rfl⟩
  rw [hV]
  have HV := Lib.hid hV; clear hV
  obtain ⟨mb, hmb⟩ : ∃ m, b.length = m := ⟨_, rfl⟩
  have HMB := Lib.hid hmb
  have HLE := Lib.hid hlen
  rw [hmb] at hlb ⊢
  clear hmb hA hlen hba hbb
  go_enter Try.func27, Try.ntmps27
  go_wp2_with fail
  refine hn.mono ?_
  rintro e w1 ⟨p1, c1, rfl, S1, b1⟩
  have hB1 := hB.below b1
  have z1 := b1.size
  obtain ⟨N, hN⟩ : ∃ N, w.heap.size = N := ⟨_, rfl⟩
  rw [hN] at hB1 z1
  clear hn hB
  go_wp2_with fail
  go_loopw [5, 6] (fun s3 s4 wr => ∃ (k : Nat) (r : Option Addr) (c : Nat), s3 = .slice r ((b.take k).foldl subOne A).length c ∧ s4 = .int .i64 k ∧ k ≤ mb ∧ ShAt wr wr.heap.size r ((b.take k).foldl subOne A) ∧ Below w1.heap.size w1 wr) (fun _ s4 _ => mb - (intOf s4).toNat)
  case atStart => exact ⟨0, p1, c1, rfl, rfl, Nat.zero_le _, S1, Below.refl _ _⟩
  case round =>
    clear S1
    obtain ⟨k, r, c, rfl, rfl, hk, hr, hb⟩ := hrel
    have hmm := HMB.out
    have hsz := hb.size
    by_cases hlt : k < mb
    · obtain ⟨b2, o2, rfl, hbl2, q0, q1⟩ := (hB1.below (hb.mono z1)) k (by omega)
      have hst : (b.take (k + 1)).foldl subOne A = subOne ((b.take k).foldl subOne A) (b.getD k (0, 0)) := by rw [List.take_succ_eq_append_getElem (by omega), List.foldl_append, getD_at (by omega)]; rfl
      have hLl := HLE.out k
      generalize (b.take k).foldl subOne A = L at hr hst hLl ⊢
      obtain ⟨X, hX⟩ : ∃ X, b.getD k (0, 0) = X := ⟨_, rfl⟩
      rw [hX] at q0 q1 hst
      obtain ⟨u, v⟩ := X
      dsimp only at q0 q1
      have hL : L.length ≤ 240 := by omega
      have hidx : (k : Int) * 2 = ((k * 2 : Nat) : Int) := by omega
      have hkl : (k : Int) < (mb : Int) := by omega
      have HB := Lib.hid hB1
      have g2 : b2 < wr.heap.size := by omega
      obtain ⟨wo, rfl⟩ : ∃ W, W = wr := ⟨_, rfl⟩
      clear hX hmm hB1 hLl
      by_cases he : v ≤ u
      · have d1 : decide (v ≤ u) = true := by simpa using he
        rw [show subOne L (u, v) = L from if_pos he] at hst
        have HST := Lib.hid hst
        have HR := Lib.hid hr
        clear hst hr
        go_wp2_with fail
        go_quiet (fail)
        have bq := below_drewN (Below.refl wo.heap.size wo) nq
        generalize wo.drewN nq = W2 at bq ⊢
        go_wp2_with fail
        exact ⟨⟨k + 1, r, c, by rw [HST.out], by go_num, by omega, by rw [HST.out]; exact HR.out.into bq, hb.trans (bq.mono hsz)⟩, by simp [intOf] <;> omega⟩
      · have d1 : decide (v ≤ u) = false := by simpa using he
        rw [show subOne L (u, v) = L.foldl (subRow (u, v)) [] from if_neg he] at hst
        have HST := Lib.hid hst
        obtain ⟨ml, hml⟩ : ∃ m, L.length = m := ⟨_, rfl⟩
        have HML := Lib.hid hml
        rw [hml] at hL ⊢
        clear hst hml
        go_wp2_with fail
        go_quiet (fail)
        have bq := below_drewN (Below.refl wo.heap.size wo) nq
        generalize wo.drewN nq = W2 at bq ⊢
        have hr2 := hr.into bq
        have q0 : W2.cell? ⟨b2, o2 + k * 2, none⟩ = some (iv u) := (bq.cell (p := ⟨b2, _, none⟩) (by simp; omega)).trans q0
        have q1 : W2.cell? ⟨b2, o2 + k * 2 + 1, none⟩ = some (iv v) := (bq.cell (p := ⟨b2, _, none⟩) (by simp; omega)).trans q1
        have hb3 := hb.trans (bq.mono hsz)
        have hsz3 := hb3.size
        have g3 : b2 < W2.heap.size := by omega
        clear hr bq hb
        go_wp2_with fail
        go_loopw [7, 8] (fun s3 s7 w2 => ∃ (i : Nat) (r : Option Addr) (c : Nat), s3 = .slice r ((L.take i).foldl (subRow (u, v)) []).length c ∧ s7 = .int .i64 i ∧ i ≤ ml ∧ ShAt w2 w2.heap.size r ((L.take i).foldl (subRow (u, v)) []) ∧ Below W2.heap.size W2 w2) (fun _ s7 _ => ml - (intOf s7).toNat)
        case atStart => exact ⟨0, none, 0, rfl, rfl, Nat.zero_le _, ShAt.nil _ _ _, Below.refl _ _⟩
        case round =>
          obtain ⟨i, r3, c3, rfl, rfl, hi, hr, hb2⟩ := hrel
          have hmm := HML.out
          have hsz2 := hb2.size
          by_cases hlt2 : i < ml
          · obtain ⟨b4, o4, rfl, hbl4, r0, r1⟩ := (hr2.below hb2) i (by omega)
            have hst2 : (L.take (i + 1)).foldl (subRow (u, v)) [] = subRow (u, v) ((L.take i).foldl (subRow (u, v)) []) (L.getD i (0, 0)) := by rw [List.take_succ_eq_append_getElem (by omega), List.foldl_append, getD_at (by omega)]; rfl
            have hrl := subRow_len (u, v) (L.take i) []
            have hbk : (L.take i).length ≤ 240 := by rw [List.length_take]; omega
            generalize (L.take i).foldl (subRow (u, v)) [] = R at hr hst2 hrl ⊢
            obtain ⟨Y, hY⟩ : ∃ X, L.getD i (0, 0) = X := ⟨_, rfl⟩
            rw [hY] at r0 r1 hst2
            obtain ⟨x, y⟩ := Y
            dsimp only at r0 r1 hst2
            have hRl : R.length ≤ 2000 := by simp at hrl; omega
            have hadd := fun W (h : Below wr.heap.size wr W) => radd_any x (min y u) r3 c3 R W (hr.into h) (by omega)
            have hsr : subRow (u, v) R (x, y) = addS (addS R (x, min y u)) (max x v, y) := rfl
            rw [hsr] at hst2
            have hR2 := addS_len R (x, min y u)
            generalize addS R (x, min y u) = R2 at hst2 hadd hR2
            have hadd2 := fun p c W h => radd_any (max x v) y p c R2 W h (by omega)
            generalize addS R2 (max x v, y) = R3 at hst2 hadd2
            have HST2 := Lib.hid hst2
            have HR2 := Lib.hid hr2
            have hidx2 : (i : Int) * 2 = ((i * 2 : Nat) : Int) := by omega
            have hil : (i : Int) < (ml : Int) := by omega
            have q0 : wr.cell? ⟨b2, o2 + k * 2, none⟩ = some (iv u) := (hb2.cell (p := ⟨b2, _, none⟩) (by simp; omega)).trans q0
            have q1 : wr.cell? ⟨b2, o2 + k * 2 + 1, none⟩ = some (iv v) := (hb2.cell (p := ⟨b2, _, none⟩) (by simp; omega)).trans q1
            have g4 : b2 < wr.heap.size := by omega
            have g5 : b4 < wr.heap.size := by omega
            have hst : wr.drew.cell? ⟨b4, o4 + i * 2, none⟩ = some (iv x) ∧ wr.drew.cell? ⟨b4, o4 + i * 2 + 1, none⟩ = some (iv y) ∧ wr.drew.cell? ⟨b2, o2 + k * 2, none⟩ = some (iv u) ∧ wr.drew.cell? ⟨b2, o2 + k * 2 + 1, none⟩ = some (iv v) ∧ Below wr.heap.size wr wr.drew := ⟨r0, r1, q0, q1, (Below.refl _ _).drew⟩
            clear hY hst2 hrl hbk hr hmm hr2 hsr
            go_wp2_with fail
            go_region_held3 (fun w' => w'.cell? ⟨b4, o4 + i * 2, none⟩ = some (iv x) ∧ w'.cell? ⟨b4, o4 + i * 2 + 1, none⟩ = some (iv y) ∧ w'.cell? ⟨b2, o2 + k * 2, none⟩ = some (iv u) ∧ w'.cell? ⟨b2, o2 + k * 2 + 1, none⟩ = some (iv v) ∧ Below wr.heap.size wr w') (first | assumption | exact hst | exact held4 (a := ⟨b4, o4 + i * 2, none⟩) (b := ⟨b4, o4 + i * 2 + 1, none⟩) (c := ⟨b2, o2 + k * 2, none⟩) (d := ⟨b2, o2 + k * 2 + 1, none⟩) (by assumption) g5 g5 g4 g4 (Nat.le_refl _) b6 | fail)
              (first | (go_at_call 43; (with_reducible refine Calls.mono (hadd _ (inv4 (by assumption))) ?_); rintro e w6 ⟨p6, c6, rfl, S6, b6⟩) | fail)
            all_goals
              rename_i hHeld
              have b26 := inv4 hHeld
              have z6 := b26.size
              have g6 : b2 < w6.heap.size := by omega
              have g7 : b4 < w6.heap.size := by omega
              have hst3 : w6.drew.cell? ⟨b4, o4 + i * 2, none⟩ = some (iv x) ∧ w6.drew.cell? ⟨b4, o4 + i * 2 + 1, none⟩ = some (iv y) ∧ w6.drew.cell? ⟨b2, o2 + k * 2, none⟩ = some (iv u) ∧ w6.drew.cell? ⟨b2, o2 + k * 2 + 1, none⟩ = some (iv v) ∧ Below w6.heap.size w6 w6.drew := ⟨hHeld.1, hHeld.2.1, hHeld.2.2.1, hHeld.2.2.2.1, (Below.refl _ _).drew⟩
              have hadd3 := fun W (h : Below w6.heap.size w6 W) => hadd2 p6 c6 W (S6.into h)
              clear hst hHeld hadd r0 r1 q0 q1 b6 hadd2 S6
              go_wp2_with fail
              go_region_held3 (fun w' => w'.cell? ⟨b4, o4 + i * 2, none⟩ = some (iv x) ∧ w'.cell? ⟨b4, o4 + i * 2 + 1, none⟩ = some (iv y) ∧ w'.cell? ⟨b2, o2 + k * 2, none⟩ = some (iv u) ∧ w'.cell? ⟨b2, o2 + k * 2 + 1, none⟩ = some (iv v) ∧ Below w6.heap.size w6 w') (first | assumption | exact hst3 | exact held4 (a := ⟨b4, o4 + i * 2, none⟩) (b := ⟨b4, o4 + i * 2 + 1, none⟩) (c := ⟨b2, o2 + k * 2, none⟩) (d := ⟨b2, o2 + k * 2 + 1, none⟩) (by assumption) g7 g7 g6 g6 (Nat.le_refl _) b8 | fail)
                (first | (go_at_call 43; (with_reducible refine Calls.mono (hadd3 _ (inv4 (by assumption))) ?_); rintro e w8 ⟨p8, c8, rfl, S8, b8⟩) | fail)
              all_goals
                rename_i hHeld
                have b68 := inv4 hHeld
                have z8 := b68.size
                clear hst3 hHeld
                go_wp2_with fail
                exact ⟨⟨i + 1, p8, c8, by rw [HST2.out], by go_num, by omega, by rw [HST2.out]; exact S8, hb2.trans ((b26.trans (b68.mono z6)).mono hsz2)⟩, by simp [intOf] <;> omega⟩
          · obtain rfl : i = ml := by omega
            have hfin : (L.take i).foldl (subRow (u, v)) [] = L.foldl (subRow (u, v)) [] := by rw [List.take_of_length_le (by omega)]
            rw [hfin, ← HST.out] at hr ⊢
            have HR := Lib.hid hr
            clear hr hfin hmm hr2
            go_wp2_with fail
            exact ⟨⟨k + 1, r3, c3, rfl, by go_num, by omega, HR.out, hb3.trans (hb2.mono hsz3)⟩, by simp [intOf] <;> omega⟩
    · obtain rfl : k = mb := by omega
      have hfin : (b.take k).foldl subOne A = V := by rw [List.take_of_length_le (by omega)]; exact HV.out
      rw [hfin] at hr ⊢
      have HR := Lib.hid hr
      clear hr hfin hmm hB1
      go_wp2_with fail
      go_ret
      exact ⟨_, _, rfl, HR.out, bthen b1 hb⟩
end Go.Proofs.Ytjocgipjmcnjfaa

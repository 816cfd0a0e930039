/- Normal. -/
import Derived.Test.YtjocgipjmcnjfaaSpSort
import Derived.Test.YtjocgipjmcnjfaaSpDel
namespace Go.Proofs.Ytjocgipjmcnjfaa
open Go.RowKit

theorem joinZ_len (l : List (Int × Int)) (s : Int × Int) : (joinZ l s).length ≤ l.length + 1 := by
  rcases List.eq_nil_or_concat l with rfl | ⟨k, t, rfl⟩
  · simp [joinZ_nil]
  · rw [List.concat_eq_append, joinZ_last]
    split <;> simp
theorem joinAll_len (d : List (Int × Int)) : ∀ acc : List (Int × Int), (d.foldl joinZ acc).length ≤ acc.length + d.length := by
  induction d with
  | nil => intro acc; simp
  | cons s d ih => intro acc; rw [List.foldl_cons]; have := ih (joinZ acc s); have := joinZ_len acc s; simp; omega

set_option maxRecDepth 100000 in
set_option maxHeartbeats 2000000 in
theorem normal_own (p : Option Addr) (cap : Nat) (l : List (Int × Int)) (w : World) (hS : ShAt w w.heap.size p l) (hlen : l.length ≤ 100000) :
    Calls Try.prog 14 #[.slice p l.length cap] w (Own w (nrmZ l)) := by
  have hcl := clone_any p cap l w hS hlen
  clear hS
  obtain ⟨V, hV⟩ : ∃ V, nrmZ l = V := ⟨_, rfl⟩
  rw [hV]
  have HV := Lib.hid hV; clear hV
  go_enter Try.func14, Try.ntmps14
  go_wp2_with fail
  refine hcl.mono ?_
  rintro e w1 ⟨v1, rfl, o1, b1⟩
  go_wp2_with fail
  refine (del_any _ v1 l w1 o1 hlen).mono ?_
  rintro e w2 ⟨v2, rfl, o2, t2, hb2⟩
  have b2 : Below w.heap.size w w2 := b1.trans (t2.below b1.size (fun k hk => ((o1.lt k hk).1)))
  have hfl : (fullZ l).length ≤ l.length := List.length_filter_le _ _
  go_wp2_with fail
  refine (sort_any _ v2 (fullZ l) w2 o2 (by omega)).mono ?_
  rintro e w3 ⟨⟨vv, rfl⟩, d, hp, hs, o3, t3⟩
  have b3 : Below w.heap.size w w3 := b2.trans (t3.below b2.size (fun k hk => ((o2.lt k hk).1)))
  have hdl : d.length = (fullZ l).length := hp.length_eq
  have hfin : d.foldl joinZ [] = V := by rw [← HV.out]; exact joinAll_nrm (l := l) (f := fullZ l) rfl hp hs
  have HF := Lib.hid hfin
  obtain ⟨m, hm⟩ : ∃ m, d.length = m := ⟨_, rfl⟩
  have hm5 : m ≤ 100000 := by omega
  obtain ⟨p2, c2, rfl, hS3⟩ := own_sh o3
  rw [hm] at o3
  have HM := Lib.hid hm
  obtain ⟨N, hN⟩ : ∃ N, w.heap.size = N := ⟨_, rfl⟩
  rw [hN] at o3 b3
  rw [hm]
  clear o1 o2 t2 t3 b1 b2 hcl hp hs hfin hS3 hfl hdl hb2 hm
  go_wp2_with fail
  go_loopw [4, 14] (fun s4 s14 wr => ∃ (k : Nat) (vj : Value), vj = s4 ∧ s14 = .int .i64 k ∧ k ≤ m ∧ wr.ownsRow N 30 2 (.slice p2 m c2) m (spv d) ∧ wr.ownsRow N 30 2 vj ((d.take k).foldl joinZ []).length (spv ((d.take k).foldl joinZ [])) ∧ (∀ j, (Value.slice p2 m c2).ownBlock = some j → vj.ownBlock ≠ some j) ∧ Below N w wr) (fun _ s14 _ => m - (intOf s14).toNat)
  case atStart => exact ⟨0, _, rfl, rfl, Nat.zero_le _, o3, World.ownsRow_nil _ _ _ _, (fun j _ h => by cases h), b3⟩
  case round =>
    clear o3 b3
    obtain ⟨k, vj, he4, rfl, hk, o3, oj, hdis, hb⟩ := hrel
    subst he4
    have hsz : N ≤ wr.heap.size := by have := hb.size; omega
    by_cases hlt : k < m
    · have hmd := HM.out
      obtain ⟨p3, c3, he, hS3⟩ := own_sh (by rw [hmd]; exact o3)
      rw [hmd] at he
      cases he
      obtain ⟨b, o, rfl, hbl, q0, q1⟩ := hS3 k (by omega)
      have hstep : d.take (k + 1) = d.take k ++ [d.getD k (0, 0)] := by rw [List.take_succ_eq_append_getElem (by omega), getD_at (by omega)]
      obtain ⟨X, hX⟩ : ∃ X, d.getD k (0, 0) = X := ⟨_, rfl⟩
      rw [hX] at q0 q1 hstep
      obtain ⟨x, y⟩ := X
      dsimp only at q0 q1
      have hfold : (d.take (k + 1)).foldl joinZ [] = joinZ ((d.take k).foldl joinZ []) (x, y) := by rw [hstep, List.foldl_append]; rfl
      have hacc : ((d.take k).foldl joinZ []).length ≤ 100000 := by
        have := joinAll_len (d.take k) []
        rw [List.length_take] at this; simp at this; omega
      have HFo := Lib.hid hfold
      have HA := Lib.hid hacc
      have HO3 := Lib.hid o3
      have HOJ := Lib.hid oj
      have HD := Lib.hid hdis
      clear hX hstep hfold hacc hS3 o3 oj hdis hmd
      have hidx : (k : Int) * 2 = ((k * 2 : Nat) : Int) := by omega
      go_wp2_with fail
      obtain ⟨W1, hW1, b1, z1, ka⟩ := boxS wr x y
      rw [hW1]; clear hW1
      have o3 := own_below HO3.out b1
      have oj := own_below HOJ.out b1
      refine (join_any x y N vj _ W1 oj (by have := b1.size; omega) HA.out).mono ?_
      rintro e w5 ⟨v5, rfl, o5, t5, hn5⟩
      have o35 := t5.row o3 (fun j hj h => HD.out j hj h)
      have b5 : Below N w w5 := (hb.trans (b1.mono hsz)).trans (t5.below (by have := b1.size; omega) (fun k hk => (oj.lt k hk).1))
      go_wp2_with fail
      refine ⟨⟨k + 1, v5, rfl, by go_num, by omega, o35, by rw [HFo.out]; exact o5, fun j hj h => ?_, b5⟩, by simp [intOf] <;> omega⟩
      rcases hn5 j h with h' | h'
      · exact HD.out j hj h'
      · have := (o3.lt j hj).2; omega
    · obtain rfl : k = m := by omega
      have hfin : (d.take k).foldl joinZ [] = V := by rw [List.take_of_length_le (by rw [HM.out]; exact Nat.le_refl _)]; exact HF.out
      rw [hfin] at oj
      have HOJ := Lib.hid oj
      clear oj o3 hdis hfin
      go_wp2_with fail
      go_ret
      exact ⟨_, rfl, by rw [hN]; exact HOJ.out, by rw [hN]; exact hb⟩

theorem normal_sl (p : Option Addr) (cap : Nat) (l : List (Int × Int)) (w : World) (hS : ShAt w w.heap.size p l) (hlen : l.length ≤ 100000) :
    Calls Try.prog 14 #[.slice p l.length cap] w (Sl w (nrmZ l)) := (normal_own p cap l w hS hlen).mono fun _ _ h => h.sl

set_option maxRecDepth 100000 in
set_option maxHeartbeats 2000000 in
theorem norm_any (p : Option Addr) (cap : Nat) (l : List (Int × Int)) (w : World) (hS : ShAt w w.heap.size p l) (hlen : l.length ≤ 100000) :
    Calls Try.prog 45 #[.slice p l.length cap] w (Sl w (nrmZ l)) := by
  have hv := valid_any p cap l w hS hlen
  by_cases h : Asc l
  · rw [nrmZ_of h]
    rw [show ascB l = true from decide_eq_true h] at hv
    have HS := Lib.hid hS
    clear hS
    go_enter Try.func45, Try.ntmps45
    go_wp2_with fail
    refine hv.mono ?_
    rintro e w1 ⟨rfl, b1⟩
    go_wp2_with fail
    go_ret
    exact ⟨_, _, rfl, HS.out.into b1, b1⟩
  · rw [show ascB l = false from decide_eq_false h] at hv
    have hn := fun W (hb : Below w.heap.size w W) => normal_sl p cap l W (hS.into hb) hlen
    clear hS
    go_enter Try.func45, Try.ntmps45
    go_wp2_with fail
    refine hv.mono ?_
    rintro e w1 ⟨rfl, b1⟩
    go_wp2_with fail
    refine (hn _ b1).mono ?_
    rintro e w2 ⟨p2, c2, rfl, hS2, b2⟩
    go_wp2_with fail
    go_ret
    exact ⟨_, _, rfl, hS2, bthen b1 b2⟩

theorem nrm_len (l : List (Int × Int)) : (nrmZ l).length ≤ l.length := by
  suffices h : ∀ (l acc : List (Int × Int)), (l.foldl addS acc).length ≤ acc.length + l.length by
    have := h l []; unfold nrmZ; simpa using this
  intro l
  induction l with
  | nil => intro acc; simp
  | cons s l ih =>
    intro acc
    rw [List.foldl_cons]
    have h1 := ih (addS acc s)
    have h2 : (addS acc s).length ≤ acc.length + 1 := by
      unfold addS
      split
      · omega
      · have h3 : ∀ (r b : List (Int × Int)) (t : Int × Int) (a : List (Int × Int)), (addFin (r.foldl addStep (b, t, a))).length ≤ b.length + a.length + r.length + 1 := by
          intro r
          induction r with
          | nil => intro b t a; simp [addFin]; omega
          | cons u r ih2 =>
            intro b t a
            rw [List.foldl_cons]
            have hc : addStep (b, t, a) u = (b ++ [u], t, a) ∨ addStep (b, t, a) u = (b, t, a ++ [u]) ∨ addStep (b, t, a) u = (b, (min t.1 u.1, max t.2 u.2), a) := by
              unfold addStep
              split
              · exact .inl rfl
              · split
                · exact .inr (.inl rfl)
                · exact .inr (.inr rfl)
            rcases hc with hc | hc | hc
            · rw [hc]; have := ih2 (b ++ [u]) t a; simp at this ⊢; omega
            · rw [hc]; have := ih2 b t (a ++ [u]); simp at this ⊢; omega
            · rw [hc]; have := ih2 b (min t.1 u.1, max t.2 u.2) a; simp at this ⊢; omega
        have := h3 acc [] s []
        simp at this; omega
    simp; omega

set_option maxRecDepth 100000 in
set_option maxHeartbeats 2000000 in
theorem same_any (p q : Option Addr) (cp cq : Nat) (a b : List (Int × Int)) (w : World) (hA : ShAt w w.heap.size p a) (hB : ShAt w w.heap.size q b) (ha : a.length ≤ 100000) (hb : b.length ≤ 100000) :
    Calls Try.prog 18 #[.slice p a.length cp, .slice q b.length cq] w fun e w' => e = .returned (.bool (decide (nrmZ a = nrmZ b))) ∧ Below w.heap.size w w' := by
  have h1 := norm_any p cp a w hA ha
  have h2 := fun W (h : Below w.heap.size w W) => norm_any q cq b W (hB.into h) hb
  have h3 := fun p q cp cq W hA hB => equal_any p q cp cq (nrmZ a) (nrmZ b) W hA hB (by have := nrm_len a; omega) (by have := nrm_len b; omega)
  generalize nrmZ a = A at h1 h3 ⊢
  generalize nrmZ b = B at h2 h3 ⊢
  clear hA hB
  obtain ⟨V, hV⟩ : ∃ V, decide (A = B) = V := ⟨_, rfl⟩
  rw [hV] at h3 ⊢
  clear hV
  go_enter Try.func18, Try.ntmps18
  go_wp2_with fail
  refine h1.mono ?_
  rintro e w1 ⟨p1, c1, rfl, hS1, b1⟩
  go_wp2_with fail
  refine (h2 _ b1).mono ?_
  rintro e w2 ⟨p2, c2, rfl, hS2, b2⟩
  go_wp2_with fail
  refine (h3 p1 p2 c1 c2 _ (hS1.into b2) hS2).mono ?_
  rintro e w3 ⟨rfl, b3⟩
  go_wp2_with fail
  go_ret
  exact ⟨rfl, bthen (bthen b1 b2) b3⟩
end Go.Proofs.Ytjocgipjmcnjfaa

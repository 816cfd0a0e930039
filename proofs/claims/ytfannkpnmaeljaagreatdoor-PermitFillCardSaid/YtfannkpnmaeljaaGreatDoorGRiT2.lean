import Derived.Test.YtfannkpnmaeljaaGreatDoorGRiT1
import Derived.Test.YtfannkpnmaeljaaGreatDoorGRi1
import Derived.Shelf.SlSorted.Search
set_option linter.unusedVariables false
set_option linter.unusedSimpArgs false
/- slices.Replace of spans: laws. -/
namespace Go.Proofs.YtfannkpnmaeljaaGreatDoor
open Go.RowKit

theorem run_clear_row (w : World) (ty : TypeId) (g o n c : Nat) (cur : List Value) (hg : Arr w g 34 cur) (hfit : o + n * 2 ≤ cur.length) (hn : 0 < n) :
    (Builtin.clear_ #[40] ty #[.slice (some ⟨g, o, none⟩) n c]).run Tryz.prog w = .ok (.tuple #[]) (w.setRow g (cur.take o ++ List.replicate (n * 2) (iv 0) ++ cur.drop (o + n * 2)).toArray) := by
  have hst := run_storeCells_at Tryz.prog g o 34 (List.replicate (n * 2) (iv 0)) 0 cur.toArray w hg (by simpa using hfit) (by intro v hv'; rw [List.eq_of_mem_replicate hv']; rfl)
  simp only [Nat.add_zero, List.length_replicate] at hst
  have hz := zero_cells n
  obtain ⟨m, rfl⟩ : ∃ m, n = m + 1 := ⟨n - 1, by omega⟩
  simp [Builtin.clear_, run_underlying Tryz.underlying40, Tryz.zeroValue34, hz, hst]
theorem run_clear_none (w : World) (ty : TypeId) (p : Option Addr) (c : Nat) :
    (Builtin.clear_ #[40] ty #[.slice p 0 c]).run Tryz.prog w = .ok (.tuple #[]) w := by
  cases p <;> simp [Builtin.clear_, run_underlying Tryz.underlying40]
theorem wpList_clear_wide {w : World} {ops : Array Oper} {rest : List Oper} {o : Oper} {a : Act} {Q : Exit → Act → World → Prop} (hgd : o.guard = none) (d : Operand)
    (ho : o.op = .call { callee := .builtin .clear, args := #[d], argTypes := #[40] }) (dp : Option Addr) (n c : Nat) (hd : a.eval d = .slice dp n c)
    (g off : Nat) (cur : List Value) (hg : Arr w g 34 cur) (hpos : 0 < n → dp = some ⟨g, off, none⟩) (hfit : off + n * 2 ≤ cur.length)
    (h : ∀ w', Hid (Arr w' g 34 (splice cur off (List.replicate (n * 2) (iv 0)))) → Turns (fun k => k = g) w w' → wpList Tryz.prog ops Q rest (a.put o.dst (.tuple #[])) w') : wpList Tryz.prog ops Q (o :: rest) a w := by
  refine wpList_plain hgd fun K hK => ?_
  rcases Nat.eq_zero_or_pos n with h0 | h0
  · subst h0
    have hrun := run_clear_none w o.type dp c
    unfold Oper.wp
    simp [execOp, ho, resolve, invoke, builtin, hd, hrun, Result.andThen]
    exact hK _ _ (h _ (show Arr w g _ _ by simpa [splice] using hg) (Turns.refl _ _))
  · obtain rfl := hpos h0
    have hrun := run_clear_row w o.type g off n c cur hg hfit h0
    unfold Oper.wp
    simp [execOp, ho, resolve, invoke, builtin, hd, hrun, Result.andThen]
    refine hK _ _ (h _ (show _ = _ by simpa [splice] using setRow_heap w g _ _ _ _ hg) ?_)
    exact ⟨rfl, rfl, rfl, by simp [World.setRow], fun k _ hne => setRow_other _ _ _ _ hne⟩

/-- append of m elements where there is room: in place. -/
theorem append_room (w : World) (g i cap m cq : Nat) (q : Option Addr) (cur VV : List Value) (hA : Arr w g 34 cur) (hl : VV.length = m * 2) (hq : 0 < m → ∃ ad, q = some ad ∧ ∀ j u, VV[j]? = some u → w.cell? (ad.add j) = some u) (h0 : m = 0 → q = none → cq = 0) (h1 : ∀ u ∈ VV, u.oneCell' = true)
    (hroom : i + m ≤ cap) (hfit : i * 2 + VV.length ≤ cur.length) :
    ∃ W1, (∀ ty, (Builtin.append_ #[40, 40] ty #[.slice (some ⟨g, 0, none⟩) i cap, .slice q m cq]).run Tryz.prog w = .ok (.slice (some ⟨g, 0, none⟩) (i + m) cap) W1) ∧
      Arr W1 g 34 (splice cur (i * 2) VV) ∧ Turns (fun k => k = g) w W1 := by
  obtain ⟨i0, hi0, hz0, hz1, hz2⟩ := info_parts infoS
  rcases q with _ | ad
  · have hm : m = 0 := by
      rcases Nat.eq_zero_or_pos m with h | h
      · exact h
      · obtain ⟨_, e, _⟩ := hq h; cases e
    subst hm
    obtain rfl := h0 rfl rfl
    have hVV : VV = [] := List.eq_nil_of_length_eq_zero (by omega)
    subst hVV
    refine ⟨w, fun ty => ?_, by simpa [splice] using hA, Turns.refl _ _⟩
    have hi' : i ≤ cap := by omega
    simp [Builtin.append_, run_underlying Tryz.underlying40, sizeOf, typeInfo, hi0, Builtin.lenOf, Builtin.firstCells, hi', storeCells]
  · have hc : ∀ j u, VV[j]? = some u → w.cell? (ad.add j) = some u := fun j u hj => by
      rcases Nat.eq_zero_or_pos m with h | h
      · have hVV : VV = [] := List.eq_nil_of_length_eq_zero (by omega)
        rw [hVV] at hj; simp at hj
      · obtain ⟨_, e, h2⟩ := hq h
        cases e
        exact h2 j u hj
    have hrun := fun ty => run_append_room (P := Tryz.prog) w 40 ty 34 i0 Tryz.underlying40 hi0 g i cap cur.toArray hA ad m cq VV (by rw [hz1]; exact hl) hc h1 hroom (by rw [hz1]; simpa using hfit)
    rw [hz1] at hrun
    refine ⟨_, hrun, ?_, ?_⟩
    · show _ = _
      have := setRow_heap w g cur.toArray (splice cur (i * 2) VV).toArray 34 (0, 0) hA
      simpa [splice] using this
    · exact ⟨rfl, rfl, rfl, by simp [World.setRow], fun k _ hne => setRow_other _ _ _ _ hne⟩

theorem own_slice {W : World} {N n : Nat} {v : Value} {xs : List Value} (h : W.ownsRow N 34 2 v n xs) : ∃ p c, v = .slice p n c := by
  rcases h.2 with ⟨rfl, rfl⟩ | ⟨g, cap, cur, rfl, _⟩ <;> exact ⟨_, _, rfl⟩
theorem splice_get {α : Type} (L cs : List α) (off x : Nat) (h : off + cs.length ≤ x) (hl : off + cs.length ≤ L.length) : (splice L off cs)[x]? = L[x]? := by
  unfold splice
  rw [List.getElem?_append_right (by rw [List.length_take]; omega), List.length_take, Nat.min_eq_left (by omega), List.getElem?_append_right (by omega), List.getElem?_drop]
  congr 1
  omega
end Go.Proofs.YtfannkpnmaeljaaGreatDoor

/- slices.Replace of spans: to the end, shorter. -/
namespace Go.Proofs.YtfannkpnmaeljaaGreatDoor
open Go.RowKit

set_option maxRecDepth 100000 in
set_option maxHeartbeats 4000000 in
theorem rep_a (N g n cap i j m cq : Nat) (q : Option Addr) (l V : List (Int × Int)) (w : World) (h : w.ownsRow N 34 2 (.slice (some ⟨g, 0, none⟩) n cap) n (spv l))
    (hq : 0 < m → ∃ qb Y, q = some ⟨qb, 0, none⟩ ∧ Arr w qb 34 (spv V ++ Y) ∧ qb ≠ g) (h0 : m = 0 → q = none → cq = 0) (hm : V.length = m) (hN : N ≤ w.heap.size) (hn : n ≤ 100000) (hmm : m ≤ 100000) (hi : i < j) (hjn0 : j = n) (hsh : i + m < n) :
    Calls Tryz.prog 124 #[.slice (some ⟨g, 0, none⟩) n cap, iv i, iv j, .slice q m cq] w (Put w N g (l.take i ++ V ++ l.drop j)) := by
  obtain ⟨X, hA, hNg, hnc, hc63, hXl, hl⟩ := own_open h
  have hgl := hA.lt
  have l1 := spv_take_len (l := l) (i := i) (by omega)
  have l2 := spv_drop_len (l := l) (i := i)
  have l4 := spv_drop_len (l := l) (i := j)
  have l3 := spv_len V
  rw [hm] at l3
  rw [hl] at l2 l4
  have lX : X.length = cap * 2 - n * 2 := by rw [List.length_append, spv_len] at hXl; omega
  have e1 : spv l ++ X = spv (l.take i) ++ (spv (l.drop i) ++ X) := by rw [dropd (l := l) i, List.append_assoc]
  have e2 : spv l ++ X = spv (l.take j) ++ (spv (l.drop j) ++ X) := by rw [dropd (l := l) j, List.append_assoc]
  have l5 := spv_take_len (l := l) (i := j) (by omega)
  obtain ⟨tot, htot⟩ : ∃ tot, i + m + (n - j) = tot := ⟨_, rfl⟩
  have hll : (l.take i ++ V ++ l.drop j).length = tot := by simp [hl, hm]; omega
  have hspl : spv (l.take i ++ V ++ l.drop j) = spv (l.take i) ++ spv V ++ spv (l.drop j) := by rw [spv_append, spv_append]
  generalize hP : spv (l.take i) = P at *
  generalize hD : spv (l.drop i) = D at *
  generalize hE : spv (l.drop j) = E at *
  generalize hB : spv (l.take j) = B at *
  have hoV := spv_one V
  have hoE : ∀ v ∈ E, v.oneCell' = true := by rw [← hE]; exact spv_one _
  generalize hVV : spv V = VV at *
  have hsrc : ∀ W, Turns (fun k => k = g) w W → 0 < m → ∃ ad, q = some ad ∧ ∀ t u, VV[t]? = some u → W.cell? (ad.add t) = some u := fun W hW h => by
    obtain ⟨qb, Y, e, hY, hne⟩ := hq h
    exact ⟨_, e, (hW.arr hY hne).at 0 VV (fun t u ht => mid_get [] VV Y 0 rfl t u ht)⟩
  have HSRC := Lib.hid hsrc
  have HQ := Lib.hid hq
  clear hq hsrc
  have HLL := Lib.hid hll
  have HSPL := Lib.hid hspl
  have hz2' : ((i : Int) == (j : Int)) = false := by simp; omega
  have hij : (i : Int) ≤ (j : Int) := by omega
  have hjn : (j : Int) ≤ (n : Int) := by omega
  have hjc : (j : Int) ≤ (cap : Int) := by omega
  have hic : (i : Int) ≤ (cap : Int) := by omega
  have hin : (i : Int) ≤ (n : Int) := by omega
  have hi0 : (0 : Int) ≤ (i : Int) := by omega
  have hj0 : (0 : Int) ≤ (j : Int) := by omega
  have hjn1 : ((j : Int) == (n : Int)) = true := by simp; omega
  obtain rfl : i + m = tot := by omega
  rw [e1] at hA hXl
  have hfin : ∀ C, C = splice (splice (P ++ (D ++ X)) (i * 2) VV) ((i + m) * 2) (List.replicate ((n - (i + m)) * 2) (iv 0)) → ∃ Z', C = spv (l.take i ++ V ++ l.drop j) ++ Z' ∧ C.length = cap * 2 := by
    intro C hC
    rw [splice_app _ _ _ _ l1.symm, splice_app _ _ _ _ (by rw [List.length_append, l1, l3]; omega)] at hC
    have hE0 : E = [] := List.eq_nil_of_length_eq_zero (by omega)
    refine ⟨List.replicate ((n - (i + m)) * 2) (iv 0) ++ ((D ++ X).drop VV.length).drop (List.replicate ((n - (i + m)) * 2) (iv 0)).length, by rw [HSPL.out, hC, hE0]; simp, ?_⟩
    rw [hC]
    simp only [List.length_append, List.length_drop, List.length_replicate, l1, l2, l3, lX]
    omega
  obtain ⟨W1, hap, hA1, ht1⟩ := append_room w g i cap m cq q (P ++ (D ++ X)) VV hA l3 (HSRC.out w (Turns.refl _ _)) h0 hoV (by omega) (by rw [hXl, l3]; omega)
  have hlt : decide ((i : Int) + (m : Int) < (n : Int)) = true := decide_eq_true (by omega)
  have hlt' : decide (i + m < n) = true := decide_eq_true (by omega)
  have hlt2 : i + m < n := hsh
  have hd1 : ¬ (cap = i + m) := by omega
  have hb1 : (i : Int) + (m : Int) ≤ (n : Int) := by omega
  have hb2 : ((i + m : Nat) : Int) ≤ (n : Int) := by omega
  have hb3 : (0 : Int) ≤ ((i + m : Nat) : Int) := by omega
  have hd2 : ¬ (cap = i) := by omega
  have HF := Lib.hid hfin
  have hf2 : (i + m) * 2 + (n - (i + m)) * 2 ≤ (splice (P ++ (D ++ X)) (i * 2) VV).length := by rw [length_splice _ _ _ (by rw [hXl, l3]; omega), hXl]; omega
  clear hfin h h0 hll htot hspl e1 e2 hP hD hE hB hVV hA
  subst hjn0
  go_enter Tryz.func124, Tryz.ntmps124
  go_wp2_with (first | (at_builtin; refine wpList_append_eq rfl _ _ 40 40 rfl _ _ rfl rfl _ _ (hap _) ?_) | (refine wpList_clear_wide rfl _ rfl _ _ _ rfl g ((i + m) * 2) (splice (P ++ (D ++ X)) (i * 2) VV) hA1 (fun _ => rfl) hf2 ?_; intro w3 HA3 ht3))
  have ht := ht1.trans ht3
  go_ret
  obtain ⟨Z', hZ1, hZ2⟩ := HF.out _ rfl
  have HA4 := HA3.out
  rw [hZ1] at HA4 hZ2
  refine ⟨_, rfl, ?_, ⟨ht.os, ht.tape, ht.output, ht.size, ht.block⟩, fun k hk => .inl ?_⟩
  · rw [HLL.out]
    exact own_shut HA4 hNg (by omega) hc63 hZ2 HLL.out
  · simpa [Value.ownBlock] using hk.symm
end Go.Proofs.YtfannkpnmaeljaaGreatDoor

/- slices.Replace of spans: to the end, longer. -/
namespace Go.Proofs.YtfannkpnmaeljaaGreatDoor
open Go.RowKit

set_option maxRecDepth 100000 in
set_option maxHeartbeats 4000000 in
theorem rep_b (N g n cap i j m cq : Nat) (q : Option Addr) (l V : List (Int × Int)) (w : World) (h : w.ownsRow N 34 2 (.slice (some ⟨g, 0, none⟩) n cap) n (spv l))
    (hq : 0 < m → ∃ qb Y, q = some ⟨qb, 0, none⟩ ∧ Arr w qb 34 (spv V ++ Y) ∧ qb ≠ g) (h0 : m = 0 → q = none → cq = 0) (hm : V.length = m) (hN : N ≤ w.heap.size) (hn : n ≤ 100000) (hmm : m ≤ 100000) (hi : i < j) (hjn0 : j = n) (hsh : n ≤ i + m) :
    Calls Tryz.prog 124 #[.slice (some ⟨g, 0, none⟩) n cap, iv i, iv j, .slice q m cq] w (Put w N g (l.take i ++ V ++ l.drop j)) := by
  obtain ⟨X, hA, hNg, hnc, hc63, hXl, hl⟩ := own_open h
  have hgl := hA.lt
  have l1 := spv_take_len (l := l) (i := i) (by omega)
  have l2 := spv_drop_len (l := l) (i := i)
  have l4 := spv_drop_len (l := l) (i := j)
  have l3 := spv_len V
  rw [hm] at l3
  rw [hl] at l2 l4
  have lX : X.length = cap * 2 - n * 2 := by rw [List.length_append, spv_len] at hXl; omega
  have e1 : spv l ++ X = spv (l.take i) ++ (spv (l.drop i) ++ X) := by rw [dropd (l := l) i, List.append_assoc]
  have e2 : spv l ++ X = spv (l.take j) ++ (spv (l.drop j) ++ X) := by rw [dropd (l := l) j, List.append_assoc]
  have l5 := spv_take_len (l := l) (i := j) (by omega)
  obtain ⟨tot, htot⟩ : ∃ tot, i + m + (n - j) = tot := ⟨_, rfl⟩
  have hll : (l.take i ++ V ++ l.drop j).length = tot := by simp [hl, hm]; omega
  have hspl : spv (l.take i ++ V ++ l.drop j) = spv (l.take i) ++ spv V ++ spv (l.drop j) := by rw [spv_append, spv_append]
  generalize hP : spv (l.take i) = P at *
  generalize hD : spv (l.drop i) = D at *
  generalize hE : spv (l.drop j) = E at *
  generalize hB : spv (l.take j) = B at *
  have hoV := spv_one V
  have hoE : ∀ v ∈ E, v.oneCell' = true := by rw [← hE]; exact spv_one _
  generalize hVV : spv V = VV at *
  have hsrc : ∀ W, Turns (fun k => k = g) w W → 0 < m → ∃ ad, q = some ad ∧ ∀ t u, VV[t]? = some u → W.cell? (ad.add t) = some u := fun W hW h => by
    obtain ⟨qb, Y, e, hY, hne⟩ := hq h
    exact ⟨_, e, (hW.arr hY hne).at 0 VV (fun t u ht => mid_get [] VV Y 0 rfl t u ht)⟩
  have HSRC := Lib.hid hsrc
  have HQ := Lib.hid hq
  clear hq hsrc
  have HLL := Lib.hid hll
  have HSPL := Lib.hid hspl
  have hz2' : ((i : Int) == (j : Int)) = false := by simp; omega
  have hij : (i : Int) ≤ (j : Int) := by omega
  have hjn : (j : Int) ≤ (n : Int) := by omega
  have hjc : (j : Int) ≤ (cap : Int) := by omega
  have hic : (i : Int) ≤ (cap : Int) := by omega
  have hin : (i : Int) ≤ (n : Int) := by omega
  have hi0 : (0 : Int) ≤ (i : Int) := by omega
  have hj0 : (0 : Int) ≤ (j : Int) := by omega
  have hjn1 : ((j : Int) == (n : Int)) = true := by simp; omega
  obtain rfl : i + m = tot := by omega
  obtain ⟨i0, hi1, hz0, hz1, hz2⟩ := info_parts infoS
  have hA2 : Arr w g 34 (spv (l.take i) ++ (D ++ X)) := by rw [hP, ← e1]; exact hA
  have hcut := own_shut (n := i) (cap := cap) (l := l.take i) (X := D ++ X) hA2 hNg (by omega) hc63 (by rw [hP, ← e1]; exact hXl) (by rw [List.length_take]; omega)
  rw [hP] at hcut
  have hlt : decide ((i : Int) + (m : Int) < (n : Int)) = false := decide_eq_false (by omega)
  have hlt' : decide (i + m < n) = false := decide_eq_false (by omega)
  have hE0 : Hid (P ++ VV = spv (l.take i ++ V ++ l.drop j)) := Lib.hid (by rw [HSPL.out, List.eq_nil_of_length_eq_zero (show E.length = 0 by omega), List.append_nil])
  obtain ⟨ad, rfl, hs⟩ := HSRC.out w (Turns.refl _ _) (by omega)
  clear h h0 hll htot hspl e1 e2 hP hD hE hB hVV hA hA2
  subst hjn0
  go_enter Tryz.func124, Tryz.ntmps124
  go_wp2_with (at_builtin; refine wpList_append_mine _ rfl _ _ 40 rfl N 34 i0 (.agg #[.int .i64 0, .int .i64 0]) 2 16 Tryz.underlying40 hi1 hz0 hz1 hz2 rfl (by decide) (.slice (some ⟨g, 0, none⟩) i cap) i P rfl hcut ad m cq VV rfl l3 hs hoV (by unfold maxLen; omega) (by omega) hN ?_; intro v' w2 hown' hgrow _ hnew; obtain ⟨p', c', rfl⟩ := own_slice hown')
  go_ret
  refine ⟨_, rfl, ?_, (turns_grown (Below.refl _ _) hgrow).mono (fun k hk => by simpa [Value.ownBlock] using hk.symm), fun k hk => ?_⟩
  · rw [HLL.out, ← hE0.out]
    exact hown'
  · rcases hnew k hk with h | h
    · exact .inl (by simpa [Value.ownBlock] using h.symm)
    · exact .inr h
end Go.Proofs.YtfannkpnmaeljaaGreatDoor

/- slices.Replace of spans: where there is no room. -/
namespace Go.Proofs.YtfannkpnmaeljaaGreatDoor
open Go.RowKit

set_option maxRecDepth 100000 in
set_option maxHeartbeats 4000000 in
theorem rep_c (N g n cap i j m cq : Nat) (q : Option Addr) (l V : List (Int × Int)) (w : World) (h : w.ownsRow N 34 2 (.slice (some ⟨g, 0, none⟩) n cap) n (spv l))
    (hq : 0 < m → ∃ qb Y, q = some ⟨qb, 0, none⟩ ∧ Arr w qb 34 (spv V ++ Y) ∧ qb ≠ g) (h0 : m = 0 → q = none → cq = 0) (hm : V.length = m) (hN : N ≤ w.heap.size) (hn : n ≤ 100000) (hmm : m ≤ 100000) (hi : i < j) (hjn0 : j < n) (hsh : cap < i + m + (n - j)) :
    Calls Tryz.prog 124 #[.slice (some ⟨g, 0, none⟩) n cap, iv i, iv j, .slice q m cq] w (Put w N g (l.take i ++ V ++ l.drop j)) := by
  obtain ⟨X, hA, hNg, hnc, hc63, hXl, hl⟩ := own_open h
  have hgl := hA.lt
  have l1 := spv_take_len (l := l) (i := i) (by omega)
  have l2 := spv_drop_len (l := l) (i := i)
  have l4 := spv_drop_len (l := l) (i := j)
  have l3 := spv_len V
  rw [hm] at l3
  rw [hl] at l2 l4
  have lX : X.length = cap * 2 - n * 2 := by rw [List.length_append, spv_len] at hXl; omega
  have e1 : spv l ++ X = spv (l.take i) ++ (spv (l.drop i) ++ X) := by rw [dropd (l := l) i, List.append_assoc]
  have e2 : spv l ++ X = spv (l.take j) ++ (spv (l.drop j) ++ X) := by rw [dropd (l := l) j, List.append_assoc]
  have l5 := spv_take_len (l := l) (i := j) (by omega)
  obtain ⟨tot, htot⟩ : ∃ tot, i + m + (n - j) = tot := ⟨_, rfl⟩
  have hll : (l.take i ++ V ++ l.drop j).length = tot := by simp [hl, hm]; omega
  have hspl : spv (l.take i ++ V ++ l.drop j) = spv (l.take i) ++ spv V ++ spv (l.drop j) := by rw [spv_append, spv_append]
  generalize hP : spv (l.take i) = P at *
  generalize hD : spv (l.drop i) = D at *
  generalize hE : spv (l.drop j) = E at *
  generalize hB : spv (l.take j) = B at *
  have hoV := spv_one V
  have hoE : ∀ v ∈ E, v.oneCell' = true := by rw [← hE]; exact spv_one _
  generalize hVV : spv V = VV at *
  have hsrc : ∀ W, Turns (fun k => k = g) w W → 0 < m → ∃ ad, q = some ad ∧ ∀ t u, VV[t]? = some u → W.cell? (ad.add t) = some u := fun W hW h => by
    obtain ⟨qb, Y, e, hY, hne⟩ := hq h
    exact ⟨_, e, (hW.arr hY hne).at 0 VV (fun t u ht => mid_get [] VV Y 0 rfl t u ht)⟩
  have HSRC := Lib.hid hsrc
  have HQ := Lib.hid hq
  clear hq hsrc
  have HLL := Lib.hid hll
  have HSPL := Lib.hid hspl
  have hz2' : ((i : Int) == (j : Int)) = false := by simp; omega
  have hij : (i : Int) ≤ (j : Int) := by omega
  have hjn : (j : Int) ≤ (n : Int) := by omega
  have hjc : (j : Int) ≤ (cap : Int) := by omega
  have hic : (i : Int) ≤ (cap : Int) := by omega
  have hin : (i : Int) ≤ (n : Int) := by omega
  have hi0 : (0 : Int) ≤ (i : Int) := by omega
  have hj0 : (0 : Int) ≤ (j : Int) := by omega
  have htotb : tot ≤ 300000 := by omega
  have hjn1 : ((j : Int) == (n : Int)) = false := by simp; omega
  have w1 : IntKind.i64.wrap ((i : Int) + (m : Int)) = (i : Int) + (m : Int) := by rw [IntKind.wrap_i64]; omega
  have w2' : IntKind.i64.wrap ((i : Int) + (m : Int) + ((n - j : Nat) : Int)) = (tot : Int) := by rw [IntKind.wrap_i64]; omega
  have w3' : (i : Int) + (m : Int) + ((n - j : Nat) : Int) = (tot : Int) := by omega
  have w4' : (i : Int) + (m : Int) + ((n : Int) - (j : Int)) = (tot : Int) := by omega
  have w5' : IntKind.i64.wrap (tot : Int) = (tot : Int) := by rw [IntKind.wrap_i64]; omega
  have htn : ((i : Int) + (m : Int)).toNat = i + m := by omega
  have hb1 : (0 : Int) ≤ (i : Int) + (m : Int) := by omega
  have hb2 : (i : Int) + (m : Int) ≤ (tot : Int) := by omega
  have hb3 : (i : Int) ≤ (tot : Int) := by omega
  have hd2 : ¬ (cap = i) := by omega
  have hd3 : ¬ (cap = j) := by omega
  have hm1 : 1 ≤ m := by omega
  obtain ⟨k, hk⟩ : ∃ k, k = tot - i := ⟨_, rfl⟩
  have hik : i + k = tot := by omega
  have hkk : (tot : Int) - (i : Int) = (k : Int) := by omega
  have hw2 : IntKind.i64.wrap (k : Int) = (k : Int) := by rw [IntKind.wrap_i64]; omega
  have hlt : decide ((cap : Int) < (tot : Int)) = true := decide_eq_true (by omega)
  have hlt' : decide (cap < tot) = true := decide_eq_true (by omega)
  have hmn : Nat.min m (tot - i) = m := by show min _ _ = _; omega
  have hmn2 : Nat.min (n - j) (tot - (i + m)) = n - j := by show min _ _ = _; omega
  have hap0 := fun (W : World) (hG : Arr W g 34 (spv l ++ X)) => append_zeros W g n cap i k l X hG hl (by omega) (by omega) (by omega) (by omega)
  have HAP := Lib.hid hap0
  have hA0 := hA
  have HE2 := Lib.hid e2
  have HP := Lib.hid hP
  have hcs : cap < tot := by omega
  clear h h0 hll htot hspl e1 e2 hP hD hE hB hVV hap0 hA
  have HIK := Lib.hid hik
  clear hik hk
  go_enter Tryz.func124, Tryz.ntmps124
  go_wp2_with fail
  go_quiet (fail)
  obtain ⟨W0, hW0⟩ : ∃ W0, w.drewN nq = W0 := ⟨_, rfl⟩
  have hbz : Below w.heap.size w W0 := hW0 ▸ below_drewN (Below.refl _ _) nq
  have hsz0 : W0.heap.size = w.heap.size := by rw [← hW0]; rfl
  have hA : Arr W0 g 34 (spv l ++ X) := hA0.below hbz hgl
  rw [hW0]
  clear hW0
  obtain ⟨cap2, Z, W1, hap, hB1, hZl, hc1, hc2, hbl⟩ := HAP.out W0 hA
  rw [HP.out] at hB1 hZl
  rw [HIK.out] at hap hc1
  have lZ : Z.length = cap2 * 2 - i * 2 := by rw [List.length_append, l1] at hZl; omega
  have hgw : g ≠ W0.heap.size := by omega
  have hA1 := hA.below hbl (by omega)
  rw [HE2.out] at hA1
  have hfin : ∀ C, C = splice (splice (P ++ Z) (i * 2) VV) ((i + m) * 2) E → ∃ Z', C = spv (l.take i ++ V ++ l.drop j) ++ Z' ∧ C.length = cap2 * 2 := by
    intro C hC
    have := hA.lt
    rw [splice_app _ _ _ _ l1.symm, splice_app _ _ _ _ (by rw [List.length_append, l1, l3]; omega)] at hC
    refine ⟨_, by rw [HSPL.out, hC], ?_⟩
    rw [hC]
    simp only [List.length_append, List.length_drop, l1, l3, l4, lZ]
    omega
  have HF := Lib.hid hfin
  obtain ⟨qb, Y, rfl, hY, hne⟩ := HQ.out (by omega)
  have hs1 : ∀ t u, VV[t]? = some u → W1.cell? ((⟨qb, 0, none⟩ : Addr).add t) = some u :=
    ((hY.below hbz hY.lt).below hbl (by have := hY.lt; omega)).at 0 VV (fun t u ht => mid_get [] VV Y 0 rfl t u ht)
  have hf1 : i * 2 + VV.length ≤ (P ++ Z).length := by rw [hZl, l3]; omega
  have hf2 : (i + m) * 2 + E.length ≤ (splice (P ++ Z) (i * 2) VV).length := by rw [length_splice _ _ _ hf1, hZl, l4]; omega
  have hd4 : ¬ (cap2 = i) := by omega
  have hd5 : ¬ (cap2 = i + m) := by omega
  have htc : (tot : Int) ≤ (cap2 : Int) := by omega
  clear hfin hZl lZ
  rw [hsz0] at hap hB1 hgw
  go_wp2_with (first | (at_builtin; refine wpList_append_eq rfl _ _ 40 3 rfl _ _ rfl rfl _ _ (hap _) ?_) | (refine wpList_copy_wide rfl _ _ 40 40 rfl 34 2 Tryz.underlying40 infoS2 _ _ _ _ _ _ rfl rfl w.heap.size (i * 2) (P ++ Z) 34 hB1 m hmn VV l3 (fun _ => ⟨rfl, _, rfl, hs1⟩) hf1 hoV ?_; intro w2 HA2 ht2))
  go_still_tail 9, (by kernel_rfl)
  have hA2 := ht2.arr hA1 hgw
  refine wpList_copy_wide rfl _ _ 40 40 rfl 34 2 Tryz.underlying40 infoS2 _ _ _ _ _ _ rfl rfl w.heap.size ((i + m) * 2) (splice (P ++ Z) (i * 2) VV) 34 HA2.out (n - j) hmn2 E l4 (fun _ => ⟨rfl, _, rfl, hA2.at (j * 2) E (mid_get B E X _ l5.symm)⟩) hf2 hoE ?_
  intro w3 HA3 ht3
  go_wp2_with fail
  go_ret
  obtain ⟨Z', hZ1, hZ2⟩ := HF.out _ rfl
  have HA4 := HA3.out
  rw [hZ1] at HA4 hZ2
  have hb4' : Below w.heap.size w w3 := (((hbz.trans (hbl.mono (by omega))).trans (ht2.below (by have := hbl.size; omega) (fun k hk => by omega))).drew).trans (ht3.below (by have := hbl.size; have := ht2.size; show _ ≤ w2.heap.size; omega) (fun k hk => by omega))
  refine ⟨_, rfl, ?_, ⟨hb4'.os, hb4'.tape, hb4'.output, hb4'.size, fun k hk _ => hb4'.block k hk⟩, fun k hk => .inr ?_⟩
  · rw [HLL.out]
    exact own_shut HA4 (by omega) (by omega) hc2 hZ2 HLL.out
  · have : w.heap.size = k := by simpa [Value.ownBlock] using hk
    omega
end Go.Proofs.YtfannkpnmaeljaaGreatDoor

/- slices.Replace of spans: in place, not longer. -/
namespace Go.Proofs.YtfannkpnmaeljaaGreatDoor
open Go.RowKit

set_option maxRecDepth 100000 in
set_option maxHeartbeats 4000000 in
theorem rep_d (N g n cap i j m cq : Nat) (q : Option Addr) (l V : List (Int × Int)) (w : World) (h : w.ownsRow N 34 2 (.slice (some ⟨g, 0, none⟩) n cap) n (spv l))
    (hq : 0 < m → ∃ qb Y, q = some ⟨qb, 0, none⟩ ∧ Arr w qb 34 (spv V ++ Y) ∧ qb ≠ g) (h0 : m = 0 → q = none → cq = 0) (hm : V.length = m) (hN : N ≤ w.heap.size) (hn : n ≤ 100000) (hmm : m ≤ 100000) (hi : i < j) (hjn0 : j < n) (hsh : i + m ≤ j) :
    Calls Tryz.prog 124 #[.slice (some ⟨g, 0, none⟩) n cap, iv i, iv j, .slice q m cq] w (Put w N g (l.take i ++ V ++ l.drop j)) := by
  obtain ⟨X, hA, hNg, hnc, hc63, hXl, hl⟩ := own_open h
  have hgl := hA.lt
  have l1 := spv_take_len (l := l) (i := i) (by omega)
  have l2 := spv_drop_len (l := l) (i := i)
  have l4 := spv_drop_len (l := l) (i := j)
  have l3 := spv_len V
  rw [hm] at l3
  rw [hl] at l2 l4
  have lX : X.length = cap * 2 - n * 2 := by rw [List.length_append, spv_len] at hXl; omega
  have e1 : spv l ++ X = spv (l.take i) ++ (spv (l.drop i) ++ X) := by rw [dropd (l := l) i, List.append_assoc]
  have e2 : spv l ++ X = spv (l.take j) ++ (spv (l.drop j) ++ X) := by rw [dropd (l := l) j, List.append_assoc]
  have l5 := spv_take_len (l := l) (i := j) (by omega)
  obtain ⟨tot, htot⟩ : ∃ tot, i + m + (n - j) = tot := ⟨_, rfl⟩
  have hll : (l.take i ++ V ++ l.drop j).length = tot := by simp [hl, hm]; omega
  have hspl : spv (l.take i ++ V ++ l.drop j) = spv (l.take i) ++ spv V ++ spv (l.drop j) := by rw [spv_append, spv_append]
  generalize hP : spv (l.take i) = P at *
  generalize hD : spv (l.drop i) = D at *
  generalize hE : spv (l.drop j) = E at *
  generalize hB : spv (l.take j) = B at *
  have hoV := spv_one V
  have hoE : ∀ v ∈ E, v.oneCell' = true := by rw [← hE]; exact spv_one _
  generalize hVV : spv V = VV at *
  have hsrc : ∀ W, Turns (fun k => k = g) w W → 0 < m → ∃ ad, q = some ad ∧ ∀ t u, VV[t]? = some u → W.cell? (ad.add t) = some u := fun W hW h => by
    obtain ⟨qb, Y, e, hY, hne⟩ := hq h
    exact ⟨_, e, (hW.arr hY hne).at 0 VV (fun t u ht => mid_get [] VV Y 0 rfl t u ht)⟩
  have HSRC := Lib.hid hsrc
  have HQ := Lib.hid hq
  clear hq hsrc
  have HLL := Lib.hid hll
  have HSPL := Lib.hid hspl
  have hz2' : ((i : Int) == (j : Int)) = false := by simp; omega
  have hij : (i : Int) ≤ (j : Int) := by omega
  have hjn : (j : Int) ≤ (n : Int) := by omega
  have hjc : (j : Int) ≤ (cap : Int) := by omega
  have hic : (i : Int) ≤ (cap : Int) := by omega
  have hin : (i : Int) ≤ (n : Int) := by omega
  have hi0 : (0 : Int) ≤ (i : Int) := by omega
  have hj0 : (0 : Int) ≤ (j : Int) := by omega
  have htotb : tot ≤ 300000 := by omega
  have hjn1 : ((j : Int) == (n : Int)) = false := by simp; omega
  have w1 : IntKind.i64.wrap ((i : Int) + (m : Int)) = (i : Int) + (m : Int) := by rw [IntKind.wrap_i64]; omega
  have w2' : IntKind.i64.wrap ((i : Int) + (m : Int) + ((n - j : Nat) : Int)) = (tot : Int) := by rw [IntKind.wrap_i64]; omega
  have w3' : (i : Int) + (m : Int) + ((n - j : Nat) : Int) = (tot : Int) := by omega
  have w4' : (i : Int) + (m : Int) + ((n : Int) - (j : Int)) = (tot : Int) := by omega
  have w5' : IntKind.i64.wrap (tot : Int) = (tot : Int) := by rw [IntKind.wrap_i64]; omega
  have htn : ((i : Int) + (m : Int)).toNat = i + m := by omega
  have hb1 : (0 : Int) ≤ (i : Int) + (m : Int) := by omega
  have hb2 : (i : Int) + (m : Int) ≤ (tot : Int) := by omega
  have hb3 : (i : Int) ≤ (tot : Int) := by omega
  have hd2 : ¬ (cap = i) := by omega
  have hd3 : ¬ (cap = j) := by omega
  have hcs : ¬ ((cap : Int) < (tot : Int)) := by omega
  have hlt : decide ((cap : Int) < (tot : Int)) = false := decide_eq_false hcs
  have hlt' : decide (cap < tot) = false := decide_eq_false (by omega)
  have htc : (tot : Int) ≤ (cap : Int) := by omega
  have hmn : Nat.min m (tot - i) = m := by show min _ _ = _; omega
  have hmn2 : Nat.min (n - j) (tot - (i + m)) = n - j := by show min _ _ = _; omega
  have hd5 : ¬ (cap = i + m) := by omega
  have hA0 := hA
  have hle : decide ((i : Int) + (m : Int) ≤ (j : Int)) = true := decide_eq_true (by omega)
  have hle' : decide (i + m ≤ j) = true := decide_eq_true hsh
  have htn2 : (tot : Int) ≤ (n : Int) := by omega
  have hln : tot ≤ n := by omega
  have e12 : P ++ (D ++ X) = B ++ (E ++ X) := e1.symm.trans e2
  have hc1l : (P ++ (D ++ X)).length = cap * 2 := by rw [← e1]; exact hXl
  have hfin : ∀ C, C = splice (splice (splice (P ++ (D ++ X)) (i * 2) VV) ((i + m) * 2) E) (tot * 2) (List.replicate ((n - tot) * 2) (iv 0)) → ∃ Z', C = spv (l.take i ++ V ++ l.drop j) ++ Z' ∧ C.length = cap * 2 := by
    intro C hC
    rw [splice_app _ _ _ _ l1.symm, splice_app _ _ _ _ (by rw [List.length_append, l1, l3]; omega), splice_app _ _ _ _ (by rw [List.length_append, List.length_append, l1, l3, l4]; omega)] at hC
    refine ⟨_, by rw [HSPL.out, hC, List.append_assoc (P ++ VV ++ E)], ?_⟩
    rw [hC]
    simp only [List.length_append, List.length_drop, List.length_replicate, l1, l2, l3, l4, lX]
    omega
  have hf1 : i * 2 + VV.length ≤ (P ++ (D ++ X)).length := by rw [hc1l, l3]; omega
  have hf2 : (i + m) * 2 + E.length ≤ (splice (P ++ (D ++ X)) (i * 2) VV).length := by rw [length_splice _ _ _ hf1, hc1l, l4]; omega
  have hf3 : tot * 2 + (n - tot) * 2 ≤ (splice (splice (P ++ (D ++ X)) (i * 2) VV) ((i + m) * 2) E).length := by rw [length_splice _ _ _ hf2, length_splice _ _ _ hf1, hc1l]; omega
  have hgE : ∀ t u, E[t]? = some u → (splice (P ++ (D ++ X)) (i * 2) VV)[j * 2 + t]? = some u := fun t u ht => by
    rw [splice_get _ _ _ _ (by rw [l3]; omega) hf1, e12]
    exact mid_get B E X _ l5.symm t u ht
  have HF := Lib.hid hfin
  have HGE := Lib.hid hgE
  have HE1 := Lib.hid e1
  clear h h0 hll htot hspl e1 e2 e12 hP hD hE hB hVV hA hfin hgE hc1l
  by_cases hct : cap = tot
  · subst hct
    have hf4 : cap * 2 + 0 * 2 ≤ (splice (splice (P ++ (D ++ X)) (i * 2) VV) ((i + m) * 2) E).length := by omega
    go_enter Tryz.func124, Tryz.ntmps124
    go_wp2_with fail
    go_quiet (fail)
    obtain ⟨W0, hW0⟩ : ∃ W0, w.drewN nq = W0 := ⟨_, rfl⟩
    have hbz : Below w.heap.size w W0 := hW0 ▸ below_drewN (Below.refl _ _) nq
    have hsz0 : W0.heap.size = w.heap.size := by rw [← hW0]; rfl
    have hA : Arr W0 g 34 (spv l ++ X) := hA0.below hbz hgl
    rw [hW0]
    clear hW0
    rw [HE1.out] at hA
    have hs1 := fun h => HSRC.out W0 (Turns.of_below hbz) h
    clear hsz0
    go_wp2_with (refine wpList_copy_wide rfl _ _ 40 40 rfl 34 2 Tryz.underlying40 infoS2 _ _ _ _ _ _ rfl rfl g (i * 2) (P ++ (D ++ X)) 34 hA m hmn VV l3 (fun h => ⟨rfl, hs1 h⟩) hf1 hoV ?_; intro w2 HA2 ht2)
    go_still_tail 9, (by kernel_rfl)
    refine wpList_copy_wide rfl _ _ 40 40 rfl 34 2 Tryz.underlying40 infoS2 _ _ _ _ _ _ rfl rfl g ((i + m) * 2) (splice (P ++ (D ++ X)) (i * 2) VV) 34 HA2.out.drew (n - j) hmn2 E l4 (fun _ => ⟨rfl, _, rfl, HA2.out.drew.at (j * 2) E HGE.out⟩) hf2 hoE ?_
    intro w3 HA3 ht3
    go_wp2_with (refine wpList_clear_wide rfl _ rfl _ _ _ rfl g (cap * 2) (splice (splice (P ++ (D ++ X)) (i * 2) VV) ((i + m) * 2) E) HA3.out (fun h => absurd h (Nat.lt_irrefl 0)) hf4 ?_; intro w4 HA5 ht5)
    all_goals
      have ht : Turns (fun k => k = g) w w4 := (((Turns.of_below hbz).trans ht2).trans (Turns.of_below (Below.refl _ w2).drew)).trans (ht3.trans ht5)
      go_ret
      obtain ⟨Z', hZ1, hZ2⟩ := HF.out _ (by rw [show n - cap = 0 by omega])
      have HA4 := HA5.out
      rw [hZ1] at HA4 hZ2
      refine ⟨_, rfl, ?_, ⟨ht.os, ht.tape, ht.output, ht.size, ht.block⟩, fun k hk => .inl ?_⟩
      · first | rw [HLL.out] | rw [← List.append_assoc, HLL.out]
        exact own_shut HA4 hNg (by omega) hc63 hZ2 HLL.out
      · simpa [Value.ownBlock] using hk.symm
  · skip
    go_enter Tryz.func124, Tryz.ntmps124
    go_wp2_with fail
    go_quiet (fail)
    obtain ⟨W0, hW0⟩ : ∃ W0, w.drewN nq = W0 := ⟨_, rfl⟩
    have hbz : Below w.heap.size w W0 := hW0 ▸ below_drewN (Below.refl _ _) nq
    have hsz0 : W0.heap.size = w.heap.size := by rw [← hW0]; rfl
    have hA : Arr W0 g 34 (spv l ++ X) := hA0.below hbz hgl
    rw [hW0]
    clear hW0
    rw [HE1.out] at hA
    have hs1 := fun h => HSRC.out W0 (Turns.of_below hbz) h
    clear hsz0
    go_wp2_with (refine wpList_copy_wide rfl _ _ 40 40 rfl 34 2 Tryz.underlying40 infoS2 _ _ _ _ _ _ rfl rfl g (i * 2) (P ++ (D ++ X)) 34 hA m hmn VV l3 (fun h => ⟨rfl, hs1 h⟩) hf1 hoV ?_; intro w2 HA2 ht2)
    go_still_tail 9, (by kernel_rfl)
    refine wpList_copy_wide rfl _ _ 40 40 rfl 34 2 Tryz.underlying40 infoS2 _ _ _ _ _ _ rfl rfl g ((i + m) * 2) (splice (P ++ (D ++ X)) (i * 2) VV) 34 HA2.out.drew (n - j) hmn2 E l4 (fun _ => ⟨rfl, _, rfl, HA2.out.drew.at (j * 2) E HGE.out⟩) hf2 hoE ?_
    intro w3 HA3 ht3
    go_wp2_with (refine wpList_clear_wide rfl _ rfl _ _ _ rfl g (tot * 2) (splice (splice (P ++ (D ++ X)) (i * 2) VV) ((i + m) * 2) E) HA3.out (fun _ => rfl) hf3 ?_; intro w4 HA5 ht5)
    all_goals
      have ht : Turns (fun k => k = g) w w4 := (((Turns.of_below hbz).trans ht2).trans (Turns.of_below (Below.refl _ w2).drew)).trans (ht3.trans ht5)
      go_ret
      obtain ⟨Z', hZ1, hZ2⟩ := HF.out _ rfl
      have HA4 := HA5.out
      rw [hZ1] at HA4 hZ2
      refine ⟨_, rfl, ?_, ⟨ht.os, ht.tape, ht.output, ht.size, ht.block⟩, fun k hk => .inl ?_⟩
      · first | rw [HLL.out] | rw [← List.append_assoc, HLL.out]
        exact own_shut HA4 hNg (by omega) hc63 hZ2 HLL.out
      · simpa [Value.ownBlock] using hk.symm
end Go.Proofs.YtfannkpnmaeljaaGreatDoor

/- slices.Replace of spans: in place, longer. -/
namespace Go.Proofs.YtfannkpnmaeljaaGreatDoor
open Go.RowKit

set_option maxRecDepth 100000 in
set_option maxHeartbeats 4000000 in
theorem rep_e (N g n cap i j m cq : Nat) (q : Option Addr) (l V : List (Int × Int)) (w : World) (h : w.ownsRow N 34 2 (.slice (some ⟨g, 0, none⟩) n cap) n (spv l))
    (hq : 0 < m → ∃ qb Y, q = some ⟨qb, 0, none⟩ ∧ Arr w qb 34 (spv V ++ Y) ∧ qb ≠ g) (h0 : m = 0 → q = none → cq = 0) (hm : V.length = m) (hN : N ≤ w.heap.size) (hn : n ≤ 100000) (hmm : m ≤ 100000) (hi : i < j) (hjn0 : j < n) (hsh : j < i + m) (hro : i + m + (n - j) ≤ cap) :
    Calls Tryz.prog 124 #[.slice (some ⟨g, 0, none⟩) n cap, iv i, iv j, .slice q m cq] w (Put w N g (l.take i ++ V ++ l.drop j)) := by
  obtain ⟨X, hA, hNg, hnc, hc63, hXl, hl⟩ := own_open h
  have hgl := hA.lt
  have l1 := spv_take_len (l := l) (i := i) (by omega)
  have l2 := spv_drop_len (l := l) (i := i)
  have l4 := spv_drop_len (l := l) (i := j)
  have l3 := spv_len V
  rw [hm] at l3
  rw [hl] at l2 l4
  have lX : X.length = cap * 2 - n * 2 := by rw [List.length_append, spv_len] at hXl; omega
  have e1 : spv l ++ X = spv (l.take i) ++ (spv (l.drop i) ++ X) := by rw [dropd (l := l) i, List.append_assoc]
  have e2 : spv l ++ X = spv (l.take j) ++ (spv (l.drop j) ++ X) := by rw [dropd (l := l) j, List.append_assoc]
  have l5 := spv_take_len (l := l) (i := j) (by omega)
  obtain ⟨tot, htot⟩ : ∃ tot, i + m + (n - j) = tot := ⟨_, rfl⟩
  have hll : (l.take i ++ V ++ l.drop j).length = tot := by simp [hl, hm]; omega
  have hspl : spv (l.take i ++ V ++ l.drop j) = spv (l.take i) ++ spv V ++ spv (l.drop j) := by rw [spv_append, spv_append]
  generalize hP : spv (l.take i) = P at *
  generalize hD : spv (l.drop i) = D at *
  generalize hE : spv (l.drop j) = E at *
  generalize hB : spv (l.take j) = B at *
  have hoV := spv_one V
  have hoE : ∀ v ∈ E, v.oneCell' = true := by rw [← hE]; exact spv_one _
  generalize hVV : spv V = VV at *
  have hsrc : ∀ W, Turns (fun k => k = g) w W → 0 < m → ∃ ad, q = some ad ∧ ∀ t u, VV[t]? = some u → W.cell? (ad.add t) = some u := fun W hW h => by
    obtain ⟨qb, Y, e, hY, hne⟩ := hq h
    exact ⟨_, e, (hW.arr hY hne).at 0 VV (fun t u ht => mid_get [] VV Y 0 rfl t u ht)⟩
  have HSRC := Lib.hid hsrc
  have HQ := Lib.hid hq
  clear hq hsrc
  have HLL := Lib.hid hll
  have HSPL := Lib.hid hspl
  have hz2' : ((i : Int) == (j : Int)) = false := by simp; omega
  have hij : (i : Int) ≤ (j : Int) := by omega
  have hjn : (j : Int) ≤ (n : Int) := by omega
  have hjc : (j : Int) ≤ (cap : Int) := by omega
  have hic : (i : Int) ≤ (cap : Int) := by omega
  have hin : (i : Int) ≤ (n : Int) := by omega
  have hi0 : (0 : Int) ≤ (i : Int) := by omega
  have hj0 : (0 : Int) ≤ (j : Int) := by omega
  have htotb : tot ≤ 300000 := by omega
  have hjn1 : ((j : Int) == (n : Int)) = false := by simp; omega
  have w1 : IntKind.i64.wrap ((i : Int) + (m : Int)) = (i : Int) + (m : Int) := by rw [IntKind.wrap_i64]; omega
  have w2' : IntKind.i64.wrap ((i : Int) + (m : Int) + ((n - j : Nat) : Int)) = (tot : Int) := by rw [IntKind.wrap_i64]; omega
  have w3' : (i : Int) + (m : Int) + ((n - j : Nat) : Int) = (tot : Int) := by omega
  have w4' : (i : Int) + (m : Int) + ((n : Int) - (j : Int)) = (tot : Int) := by omega
  have w5' : IntKind.i64.wrap (tot : Int) = (tot : Int) := by rw [IntKind.wrap_i64]; omega
  have htn : ((i : Int) + (m : Int)).toNat = i + m := by omega
  have hb1 : (0 : Int) ≤ (i : Int) + (m : Int) := by omega
  have hb2 : (i : Int) + (m : Int) ≤ (tot : Int) := by omega
  have hb3 : (i : Int) ≤ (tot : Int) := by omega
  have hd2 : ¬ (cap = i) := by omega
  have hd3 : ¬ (cap = j) := by omega
  have hcs : ¬ ((cap : Int) < (tot : Int)) := by omega
  have hlt : decide ((cap : Int) < (tot : Int)) = false := decide_eq_false hcs
  have hlt' : decide (cap < tot) = false := decide_eq_false (by omega)
  have htc : (tot : Int) ≤ (cap : Int) := by omega
  have hmn : Nat.min m (tot - i) = m := by show min _ _ = _; omega
  have hmn2 : Nat.min (n - j) (tot - (i + m)) = n - j := by show min _ _ = _; omega
  have hd5 : ¬ (cap = i + m) := by omega
  have hA0 := hA
  have hle : decide ((i : Int) + (m : Int) ≤ (j : Int)) = false := decide_eq_false (by omega)
  have hle' : decide (i + m ≤ j) = false := decide_eq_false (by omega)
  have hc1l : (P ++ (D ++ X)).length = cap * 2 := by rw [← e1]; exact hXl
  have e12 : P ++ (D ++ X) = B ++ (E ++ X) := e1.symm.trans e2
  have hfin : ∀ C, C = splice (splice (P ++ (D ++ X)) ((i + m) * 2) E) (i * 2) VV → ∃ Z', C = spv (l.take i ++ V ++ l.drop j) ++ Z' ∧ C.length = cap * 2 := by
    intro C hC
    have f1 : P ++ (D ++ X) = (P ++ (D ++ X)).take ((i + m) * 2) ++ (P ++ (D ++ X)).drop ((i + m) * 2) := (List.take_append_drop _ _).symm
    have lf : ((P ++ (D ++ X)).take ((i + m) * 2)).length = (i + m) * 2 := by
      rw [List.length_take, hc1l]; omega
    have f2 : splice (P ++ (D ++ X)) ((i + m) * 2) E = P ++ (((D ++ X).take (m * 2)) ++ E ++ ((P ++ (D ++ X)).drop ((i + m) * 2)).drop E.length) := by
      conv => lhs; rw [f1]
      rw [splice_app _ _ _ _ lf.symm]
      have : (P ++ (D ++ X)).take ((i + m) * 2) = P ++ (D ++ X).take (m * 2) := by
        rw [List.take_append, List.take_of_length_le (by omega), show (i + m) * 2 - P.length = m * 2 by omega]
      rw [this]; simp
    rw [f2, splice_app _ _ _ _ l1.symm] at hC
    have lT : ((D ++ X).take (m * 2)).length = VV.length := by
      rw [List.length_take, List.length_append, l2, lX, l3]; omega
    rw [List.append_assoc ((D ++ X).take (m * 2)), ← lT, List.drop_left] at hC
    refine ⟨_, by rw [HSPL.out, hC, List.append_assoc (P ++ VV)], ?_⟩
    rw [hC]
    simp only [List.length_append, List.length_drop, l1, l2, l3, l4, lX]
    omega
  have hf1 : (i + m) * 2 + E.length ≤ (P ++ (D ++ X)).length := by rw [hc1l, l4]; omega
  have hf2 : i * 2 + VV.length ≤ (splice (P ++ (D ++ X)) ((i + m) * 2) E).length := by rw [length_splice _ _ _ hf1, hc1l, l3]; omega
  have HF := Lib.hid hfin
  have HE1 := Lib.hid e1
  have HE12 := Lib.hid e12
  obtain ⟨qb, Y, rfl, hY, hne⟩ := HQ.out (by omega)
  have hlY : (VV ++ Y).length ≠ 0 := by rw [List.length_append, l3]; omega
  have HOV := Lib.hid (fun (W : World) (la ca lb cb : Nat) (us : List Value) (hG : Arr W g 34 us) (hW : Turns (fun k => k = g) w W) => overlaps_no W g qb ((i + m) * 2) 0 la ca lb cb us _ hG (hW.arr hY hne) (Ne.symm hne) hlY)
  clear h h0 hll htot hspl e1 e2 e12 hP hD hE hB hVV hA hfin hc1l hlY
  go_enter Tryz.func124, Tryz.ntmps124
  go_wp2_with fail
  go_quiet (fail)
  obtain ⟨W0, hW0⟩ : ∃ W0, w.drewN nq = W0 := ⟨_, rfl⟩
  have hbz : Below w.heap.size w W0 := hW0 ▸ below_drewN (Below.refl _ _) nq
  have hsz0 : W0.heap.size = w.heap.size := by rw [← hW0]; rfl
  have hA : Arr W0 g 34 (spv l ++ X) := hA0.below hbz hgl
  rw [hW0]
  clear hW0
  rw [HE1.out] at hA
  have ht0 : Turns (fun k => k = g) w W0 := Turns.of_below hbz
  clear hsz0
  go_wp2_with (rw [HOV.out _ _ _ _ _ _ hA ht0])
  go_still_tail 9, (by kernel_rfl)
  have hA3 : Arr W0 g 34 (B ++ (E ++ X)) := HE12.out ▸ hA
  refine wpList_copy_wide rfl _ _ 40 40 rfl 34 2 Tryz.underlying40 infoS2 _ _ _ _ _ _ rfl rfl g ((i + m) * 2) (P ++ (D ++ X)) 34 hA.drew (n - j) hmn2 E l4 (fun _ => ⟨rfl, _, rfl, hA3.drew.at (j * 2) E (mid_get B E X _ l5.symm)⟩) hf1 hoE ?_
  intro w2 HA2 ht2
  have ht1 : Turns (fun k => k = g) w w2 := (ht0.trans (Turns.of_below (Below.refl _ W0).drew)).trans ht2
  have hs1 := fun h => HSRC.out w2 ht1 h
  go_wp2_with (refine wpList_copy_wide rfl _ _ 40 40 rfl 34 2 Tryz.underlying40 infoS2 _ _ _ _ _ _ rfl rfl g (i * 2) (splice (P ++ (D ++ X)) ((i + m) * 2) E) 34 HA2.out m hmn VV l3 (fun h => ⟨rfl, hs1 h⟩) hf2 hoV ?_; intro w3 HA3 ht3)
  have ht := ht1.trans ht3
  go_ret
  obtain ⟨Z', hZ1, hZ2⟩ := HF.out _ rfl
  have HA4 := HA3.out
  rw [hZ1] at HA4 hZ2
  refine ⟨_, rfl, ?_, ⟨ht.os, ht.tape, ht.output, ht.size, ht.block⟩, fun k hk => .inl ?_⟩
  · rw [HLL.out]
    exact own_shut HA4 hNg (by omega) hc63 hZ2 HLL.out
  · simpa [Value.ownBlock] using hk.symm
end Go.Proofs.YtfannkpnmaeljaaGreatDoor

/- slices.Replace of spans: all of it. -/
namespace Go.Proofs.YtfannkpnmaeljaaGreatDoor
open Go.RowKit

set_option maxRecDepth 100000 in
set_option maxHeartbeats 800000 in
theorem rep_same (N NV i : Nat) (v vv : Value) (l V : List (Int × Int)) (w : World) (h : w.ownsRow N 34 2 v l.length (spv l)) (hV : w.ownsRow NV 34 2 vv V.length (spv V)) (hne : ∀ k, vv.ownBlock = some k → v.ownBlock ≠ some k)
    (hN : N ≤ w.heap.size) (hi : i ≤ l.length) (hn : l.length ≤ 100000) (hmm : V.length ≤ 100000) :
    Calls Tryz.prog 124 #[v, iv i, iv i, vv] w (Joined w N v (l.take i ++ V ++ l.drop i)) := by
  have hI := insert_any N NV i v vv l V w h hV hne hN hi hn hmm
  rcases own_form h with ⟨rfl, rfl⟩ | ⟨g, c, X, rfl, _⟩
  · obtain rfl : i = 0 := by simpa using hi
    generalize (([] : List (Int × Int)).take 0 ++ V ++ ([] : List (Int × Int)).drop 0) = L at *
    clear h hV hne
    go_enter Tryz.func124, Tryz.ntmps124
    go_wp2_with fail
    refine hI.mono ?_
    rintro e w1 ⟨v', rfl, h1, h2, h3⟩
    go_wp2_with fail
    go_ret
    exact ⟨_, rfl, h1, h2, h3⟩
  · obtain ⟨_, _, _, hc, _⟩ := own_open h
    obtain ⟨n, hnl⟩ : ∃ n, l.length = n := ⟨_, rfl⟩
    rw [hnl] at hI hi hc hn
    have hii : ((i : Int) == (i : Int)) = true := by simp
    have hin : (i : Int) ≤ (n : Int) := by omega
    have hic : (i : Int) ≤ (c : Int) := by omega
    have hi0 : (0 : Int) ≤ (i : Int) := by omega
    generalize l.take i ++ V ++ l.drop i = L at *
    rw [hnl]
    clear h hV hne hnl hi
    by_cases hci : c = i
    · subst hci
      go_enter Tryz.func124, Tryz.ntmps124
      go_wp2_with fail
      with_reducible refine Calls.mono hI ?_
      rintro e w1 ⟨v', rfl, h1, h2, h3⟩
      go_wp2_with fail
      go_ret
      exact ⟨_, rfl, h1, h2, h3⟩
    · skip
      go_enter Tryz.func124, Tryz.ntmps124
      go_wp2_with fail
      with_reducible refine Calls.mono hI ?_
      rintro e w1 ⟨v', rfl, h1, h2, h3⟩
      go_wp2_with fail
      go_ret
      exact ⟨_, rfl, h1, h2, h3⟩

theorem replace_any (N NV i j : Nat) (v vv : Value) (l V : List (Int × Int)) (w : World) (h : w.ownsRow N 34 2 v l.length (spv l)) (hV : w.ownsRow NV 34 2 vv V.length (spv V)) (hne : ∀ k, vv.ownBlock = some k → v.ownBlock ≠ some k)
    (hN : N ≤ w.heap.size) (hij : i ≤ j) (hj : j ≤ l.length) (hn : l.length ≤ 100000) (hmm : V.length ≤ 100000) :
    Calls Tryz.prog 124 #[v, iv i, iv j, vv] w (Joined w N v (l.take i ++ V ++ l.drop j)) := by
  rcases Nat.eq_or_lt_of_le hij with rfl | hlt
  · exact rep_same N NV i v vv l V w h hV hne hN hj hn hmm
  · rcases own_form h with ⟨_, rfl⟩ | ⟨g, cap, X, rfl, hA⟩
    · simp at hj; omega
    · have hd : ∃ q m cq, vv = .slice q m cq ∧ V.length = m ∧ (0 < m → ∃ qb Y, q = some ⟨qb, 0, none⟩ ∧ Arr w qb 34 (spv V ++ Y) ∧ qb ≠ g) ∧ (m = 0 → q = none → cq = 0) := by
        rcases own_form hV with ⟨rfl, rfl⟩ | ⟨qb, cq, Y, rfl, hY⟩
        · exact ⟨_, _, _, rfl, rfl, fun h => by simp at h, fun _ _ => rfl⟩
        · exact ⟨_, _, _, rfl, rfl, fun _ => ⟨qb, Y, rfl, hY, fun e => hne qb rfl (by rw [e]; rfl)⟩, fun _ e => by cases e⟩
      obtain ⟨q, m, cq, rfl, hm, hq, h0⟩ := hd
      have P := fun {l' e w'} (hp : Put w N g l' e w') => Put.joined (v := .slice (some ⟨g, 0, none⟩) l.length cap) hp rfl
      by_cases hjn : j = l.length
      · by_cases hs : i + m < l.length
        · exact (rep_a N g _ cap i j m cq q l V w h hq h0 hm hN hn (by omega) hlt hjn hs).mono fun _ _ hp => P hp
        · exact (rep_b N g _ cap i j m cq q l V w h hq h0 hm hN hn (by omega) hlt hjn (by omega)).mono fun _ _ hp => P hp
      · by_cases hc : cap < i + m + (l.length - j)
        · exact (rep_c N g _ cap i j m cq q l V w h hq h0 hm hN hn (by omega) hlt (by omega) hc).mono fun _ _ hp => P hp
        · by_cases hs : i + m ≤ j
          · exact (rep_d N g _ cap i j m cq q l V w h hq h0 hm hN hn (by omega) hlt (by omega) hs).mono fun _ _ hp => P hp
          · exact (rep_e N g _ cap i j m cq q l V w h hq h0 hm hN hn (by omega) hlt (by omega) (by omega) (by omega)).mono fun _ _ hp => P hp
end Go.Proofs.YtfannkpnmaeljaaGreatDoor

/- The library's contract for sort.Search, laid at this program: the table of numbers, and that the body is its. -/
namespace Go.Proofs.YtfannkpnmaeljaaGreatDoor
open Go.Shelf
def searchSp_ren : Go.Shelf.Ren := ⟨fun | 16 => 121 | n => n, fun | 3 => 3 | 35 => 71 | 4 => 4 | 38 => 144 | n => n, fun | n => n⟩
theorem searchSp : Go.Proofs.SlLaysO.n16 Tryz.prog searchSp_ren := {
  mixed := by kernel_rfl
  f16 := Tryz.func121.trans (congrArg some (by kernel_rfl))
  t3 := Tryz.underlying3
  a3 := Tryz.isAgg3
  z3 := Tryz.sizeOf3
  v3 := Tryz.zeroValue3
  t4 := Tryz.underlying4
  a4 := Tryz.isAgg4
  z4 := Tryz.sizeOf4
  v4 := Tryz.zeroValue4
  t35 := Tryz.underlying71
  a35 := Tryz.isAgg71
  z35 := Tryz.sizeOf71
  v35 := Tryz.zeroValue71
  t38 := Tryz.underlying144
  a38 := Tryz.isAgg144
  z38 := Tryz.sizeOf144
  v38 := Tryz.zeroValue144 }
end Go.Proofs.YtfannkpnmaeljaaGreatDoor

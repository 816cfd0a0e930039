/- Empty spans are deleted in place. -/
import Derived.Test.YtjocgipjmcnjfaaSpFind
import Derived.Test.YtjocgipjmcnjfaaSpJoin
import Derived.Lib.SliceRun
namespace Go.Proofs.Ytjocgipjmcnjfaa
open Go.RowKit

def isE (s : Int × Int) : Bool := decide (s.2 ≤ s.1)
def fullZ (l : List (Int × Int)) : List (Int × Int) := l.filter fun s => !isE s

theorem own_cutS {w : World} {N : Nat} {e : TypeId} {size g n cap i : Nat} {xs : List Value} (h : w.ownsRow N e size (.slice (some ⟨g, 0, none⟩) n cap) n xs) (hi : i ≤ n) : w.ownsRow N e size (.slice (some ⟨g, 0, none⟩) i cap) i (xs.take (i * size)) := by
  rcases h.2 with ⟨h', _⟩ | ⟨g', cap', cur, h', hb, hg, hnc, hcm, hcs, htake⟩
  · simp at h'
  · simp only [Value.slice.injEq, Option.some.injEq, Addr.mk.injEq, and_true, true_and] at h'
    obtain ⟨rfl, rfl⟩ := h'
    have hm : i * size ≤ n * size := Nat.mul_le_mul_right _ hi
    refine ⟨by rw [List.length_take, h.1]; omega, .inr ⟨g, cap, cur, rfl, hb, hg, by omega, hcm, hcs, ?_⟩⟩
    rw [← htake, List.take_take, Nat.min_eq_left hm]
theorem own_beyond {N : Nat} {e : TypeId} {size g cap i : Nat} {xs : List Value} : ∀ (vs : List Value) (o : Nat) (w : World), w.ownsRow N e size (.slice (some ⟨g, 0, none⟩) i cap) i xs → i * size ≤ o → (w.setCells g o vs).ownsRow N e size (.slice (some ⟨g, 0, none⟩) i cap) i xs
  | [], _, _, h, _ => h
  | v :: vs, o, w, h, ho => by
    refine own_beyond vs (o + 1) _ ?_ (by omega)
    have := (h.stored o v).1
    rwa [List.set_eq_of_length_le (by rw [h.1]; exact ho)] at this
theorem turns_setCells {g : Nat} : ∀ (vs : List Value) (o : Nat) (w : World), Turns (fun k => g = k) w (w.setCells g o vs)
  | [], _, _ => Turns.refl _ _
  | v :: vs, o, w => ((Turns.refl (fun k => g = k) w).of_setCell (p := ⟨g, o, none⟩) (.inl rfl) v).trans (turns_setCells vs (o + 1) _)

theorem zero_cells (n : Nat) : (Builtin.zeroCells (Value.agg #[.int .i64 0, .int .i64 0]).cells n).toList = List.replicate (n * 2) (iv 0) := by
  rw [show (Value.agg #[.int .i64 0, .int .i64 0]).cells = #[iv 0, iv 0] from rfl]
  simp [Builtin.zeroCells]
  apply List.ext_getElem
  · simp
  · intro i h1 h2
    simp
    rcases (by omega : i % 2 = 0 ∨ i % 2 = 1) with h | h <;> simp [h]
theorem run_clearS (w : World) (ty : TypeId) (b o n c : Nat) (hn : 0 < n)
    (hc : ∀ j, j < n * 2 → (w.cell? ⟨b, o + j, none⟩).isSome = true) (hf : ∀ j, j < n * 2 → w.frozen? ⟨b, o + j, none⟩ = false) :
    (Builtin.clear_ #[22] ty #[.slice (some ⟨b, o, none⟩) n c]).run Try.prog w = .ok (.tuple #[]) (w.setCells b o (List.replicate (n * 2) (iv 0))) := by
  have hst := run_storeCells_cells (P := Try.prog) b o (List.replicate (n * 2) (iv 0)) 0 w (by simpa using hc) (by simpa using hf) (by intro v hv'; rw [List.eq_of_mem_replicate hv']; rfl)
  simp only [Nat.add_zero] at hst
  have hz := zero_cells n
  obtain ⟨m, rfl⟩ : ∃ m, n = m + 1 := ⟨n - 1, by omega⟩
  simp [Builtin.clear_, run_underlying Try.underlying22, Try.zeroValue30, hz, hst]

theorem full_snoc {l : List (Int × Int)} {j : Nat} (h : j < l.length) : fullZ (l.take (j + 1)) = fullZ (l.take j) ++ if isE (l.getD j (0, 0)) then [] else [l.getD j (0, 0)] := by
  unfold fullZ
  rw [List.take_succ_eq_append_getElem h, List.filter_append, getD_at h]
  congr 1
  cases hE : isE l[j] <;> simp [hE]

set_option maxRecDepth 100000 in
set_option maxHeartbeats 2000000 in
theorem del_any (N : Nat) (v : Value) (l : List (Int × Int)) (w : World) (h : w.ownsRow N 30 2 v l.length (spv l)) (hlen : l.length ≤ 100000) :
    Calls Try.prog 36 #[v, .func (.func 38) #[] #[]] w fun e w' => ∃ v', e = .returned v' ∧ w'.ownsRow N 30 2 v' (fullZ l).length (spv (fullZ l)) ∧ Turns (fun k => v.ownBlock = some k) w w' ∧ v'.ownBlock = v.ownBlock := by
  have eg : ∀ args w, (callFunc 38 args).run Try.prog w = .ok (.enter 38 args) w := enters_of Try.func38 (by kernel_rfl) rfl
  obtain ⟨p, cap, rfl, hS⟩ := own_sh h
  have hidx := index_any 38 #[] isE eg p cap l w hS hlen (fun W x hb => isEmpty_any x.1 x.2 W)
  have he := fun a b W => isEmpty_any a b W
  obtain ⟨n, hn⟩ : ∃ n, l.length = n := ⟨_, rfl⟩
  rw [hn] at hidx h hlen ⊢
  have HN := Lib.hid hn; clear hn
  clear hS eg
  go_enter Try.func36, Try.ntmps36
  go_wp2_with fail
  refine hidx.mono ?_
  rintro e w1 ⟨⟨r, rfl, hr⟩, b1⟩
  rcases hr with ⟨k, hk, rfl, h1, h2⟩ | ⟨rfl, h1⟩
  · have hne : ((k : Int) == -1) = false := by simp
    have hown := own_below h b1
    rw [HN.out] at hk
    have hP : fullZ (l.take k) = l.take k ∧ fullZ (l.take (k + 1)) = l.take k := by
      have e1 : fullZ (l.take k) = l.take k := by
        unfold fullZ
        rw [List.filter_eq_self]
        intro s hs
        obtain ⟨i, hi, rfl⟩ := List.getElem_of_mem hs
        rw [List.length_take] at hi
        have := h2 i (by omega)
        rw [getD_at (by omega)] at this
        simp [this]
      refine ⟨e1, ?_⟩
      rw [full_snoc (by have := HN.out; omega), h1, e1, if_pos rfl, List.append_nil]
    have HP := Lib.hid hP
    obtain ⟨g, rfl⟩ : ∃ g, p = some ⟨g, 0, none⟩ := by
      rcases h.2 with ⟨h', h0⟩ | ⟨g, cap', cur, h', _⟩
      · omega
      · cases h'; exact ⟨g, rfl⟩
    have hw2 : IntKind.i64.wrap ((k : Int) + 1) = ((k + 1 : Nat) : Int) := by rw [w64 (by omega) (by omega)]; rfl
    clear h1 h2 hP hidx
    go_wp2_with fail
    go_loopw [5, 6] (fun s5 s6 wr => ∃ (i j : Nat) (junk : List (Int × Int)), s5 = .int .i64 i ∧ s6 = .int .i64 j ∧ i < j ∧ j ≤ n ∧ (fullZ (l.take j)).length = i ∧ junk.length = j - i ∧ wr.ownsRow N 30 2 (.slice (some ⟨g, 0, none⟩) n cap) n (spv (fullZ (l.take j) ++ junk ++ l.drop j)) ∧ Turns (fun b => g = b) w wr) (fun _ s6 _ => n - (intOf s6).toNat)
    case atStart =>
      have hk' := HP.out
      have hl := HN.out
      refine ⟨k, k + 1, [l.getD k (0, 0)], rfl, by go_num, by omega, by omega, by rw [hk'.2, List.length_take]; omega, by simp, ?_, Turns.of_below b1⟩
      rw [hk'.2]
      have : l.take k ++ [l.getD k (0, 0)] ++ l.drop (k + 1) = l := by
        rw [getD_at (by omega), ← List.take_succ_eq_append_getElem, List.take_append_drop]
      rw [this]
      exact hown
    case round =>
      clear hown hne hw2 HP
      obtain ⟨i, j, junk, rfl, rfl, hij, hjn, hfl, hjl, hown, ht⟩ := hrel
      have hgl := (hown.lt g rfl).2
      by_cases hlt : j < n
      · have hJ : ∃ h0 jt, junk = h0 :: jt := by
          cases junk with
          | nil => simp at hjl; omega
          | cons a b => exact ⟨a, b, rfl⟩
        obtain ⟨h0, jt, rfl⟩ := hJ
        have hll := HN.out
        have hjlt : j < l.length := by omega
        have hgl2 : fullZ (l.take j) ++ (h0 :: jt) ++ l.drop j = fullZ (l.take j) ++ (h0 :: jt) ++ l.getD j (0, 0) :: l.drop (j + 1) := by
          rw [List.drop_eq_getElem_cons hjlt, getD_at hjlt]
        rw [hgl2] at hown
        have hsn := full_snoc hjlt
        obtain ⟨X, hX⟩ : ∃ X, l.getD j (0, 0) = X := ⟨_, rfl⟩
        rw [hX] at hown hsn
        have hlenA : (fullZ (l.take j) ++ (h0 :: jt)).length = j := by rw [List.length_append, hfl, hjl]; omega
        have hsp := spv_get (l := fullZ (l.take j) ++ (h0 :: jt) ++ X :: l.drop (j + 1)) (i := j) (by rw [List.length_append, hlenA]; simp)
        have hgx : (fullZ (l.take j) ++ (h0 :: jt) ++ X :: l.drop (j + 1)).getD j (0, 0) = X := by
          rw [List.getD_eq_getElem?_getD, List.getElem?_append_right (by omega), hlenA]; simp
        rw [hgx] at hsp
        obtain ⟨x, y⟩ := X
        have q0 := hown.cellAt (j * 2) (by omega)
        have q1 := hown.cellAt (j * 2 + 1) (by omega)
        rw [hsp.1] at q0
        rw [hsp.2] at q1
        dsimp only at q0 q1
        have hidx : (j : Int) * 2 = ((j * 2 : Nat) : Int) := by omega
        have hidx2 : (i : Int) * 2 = ((i * 2 : Nat) : Int) := by omega
        have hw2 : IntKind.i64.wrap ((j : Int) + 1) = ((j + 1 : Nat) : Int) := by rw [w64 (by omega) (by omega)]; rfl
        have hw3 : IntKind.i64.wrap ((i : Int) + 1) = ((i + 1 : Nat) : Int) := by rw [w64 (by omega) (by omega)]; rfl
        have hin : (i : Int) < (n : Int) := by omega
        have hi0 : (0 : Int) ≤ (i : Int) := by omega
        have hspn : ∀ u v : Int, (spv (fullZ (l.take j) ++ (h0 :: jt) ++ (x, y) :: l.drop (j + 1))).set (i * 2) (iv u) = spv (fullZ (l.take j) ++ ((u, h0.2) :: jt) ++ (x, y) :: l.drop (j + 1)) ∧ (spv (fullZ (l.take j) ++ ((u, h0.2) :: jt) ++ (x, y) :: l.drop (j + 1))).set (i * 2 + 1) (iv v) = spv (fullZ (l.take j) ++ ((u, v) :: jt) ++ (x, y) :: l.drop (j + 1)) := by
          intro u v
          constructor
          · rw [List.append_assoc, spv_append, List.set_append, if_neg (by rw [spv_len, hfl]; omega), spv_len, hfl, show i * 2 - i * 2 = 0 by omega, List.append_assoc, spv_append (fullZ _)]
            rfl
          · rw [List.append_assoc, spv_append, List.set_append, if_neg (by rw [spv_len, hfl]; omega), spv_len, hfl, show i * 2 + 1 - i * 2 = 1 by omega, List.append_assoc, spv_append (fullZ _)]
            rfl
        have HX := Lib.hid hX
        have HS := Lib.hid hspn
        have HO := Lib.hid hown
        have HSN := Lib.hid hsn
        have HFL := Lib.hid hfl
        have HJL := Lib.hid hjl
        clear hX hspn hsn hsp hgx hgl2 hlenA hfl hjl hll hjlt h
        by_cases hE : y ≤ x
        · have he1 := fun W => he x y W
          rw [decide_eq_true hE] at he1
          have hE2 : isE (x, y) = true := decide_eq_true hE
          clear hown he
          go_wp2_with (go_at_call 38; refine (he1 _).mono ?_; rintro e w6 ⟨rfl, b6⟩)
          have b7 : Below wr.heap.size wr w6 := ((Below.refl _ wr).alloc (Nat.le_refl _) _).trans (b6.mono (by simp))
          refine ⟨⟨i, j + 1, h0 :: jt ++ [(x, y)], rfl, by go_num, by omega, by omega, ?_, ?_, ?_, ht.trans (Turns.of_below b7)⟩, by simp [intOf] <;> omega⟩
          · rw [HSN.out, if_pos hE2, List.append_nil]; exact HFL.out
          · rw [List.length_append, HJL.out]; simp; omega
          · rw [HSN.out, if_pos hE2, List.append_nil, ← List.append_assoc, List.append_assoc _ [(x, y)]]
            exact own_below HO.out b7
        · have he1 := fun W => he x y W
          rw [decide_eq_false hE] at he1
          have hE2 : isE (x, y) = false := decide_eq_false hE
          clear hown he
          go_wp2_with fail
          refine (he1 _).mono ?_; rintro e w6 ⟨rfl, b6⟩
          have b0 : Below wr.heap.size wr (wr.alloc (.cells #[iv x, iv y] 30)) := (Below.refl _ wr).alloc (Nat.le_refl _) _
          have b7 : Below wr.heap.size wr w6 := b0.trans (b6.mono (by simp))
          have hown := own_below HO.out b7
          have kb := (Arr.new wr 30 [iv x, iv y]).below b6 (by simp)
          have c0 := kb.cell (i := 0) rfl
          have c1 := kb.cell (i := 1) rfl
          have m0 := hown.cellAt (i * 2) (by omega)
          have m1 := hown.cellAt (i * 2 + 1) (by omega)
          have f0 := hown.frozenAt (i * 2)
          have f1 := hown.frozenAt (i * 2 + 1)
          have hlenH : ∀ q, q < n * 2 → (spv (fullZ (l.take j) ++ h0 :: jt ++ (x, y) :: l.drop (j + 1)))[q]? = some ((spv (fullZ (l.take j) ++ h0 :: jt ++ (x, y) :: l.drop (j + 1))).getD q (iv 0)) := fun q hq => by
            rw [List.getD_eq_getElem?_getD, List.getElem?_eq_getElem (by rw [hown.1]; omega)]; rfl
          rw [hlenH _ (by omega)] at m0 m1
          generalize (spv (fullZ (l.take j) ++ h0 :: jt ++ (x, y) :: l.drop (j + 1))).getD (i * 2) (iv 0) = M0 at m0
          generalize (spv (fullZ (l.take j) ++ h0 :: jt ++ (x, y) :: l.drop (j + 1))).getD (i * 2 + 1) (iv 0) = M1 at m1
          have hP : ((w6.setCell ⟨g, i * 2, none⟩ (iv x)).setCell ⟨g, i * 2 + 1, none⟩ (iv y)).ownsRow N 30 2 (.slice (some ⟨g, 0, none⟩) n cap) n (spv (fullZ (l.take (j + 1)) ++ (jt ++ [(x, y)]) ++ l.drop (j + 1))) ∧ Turns (fun b => g = b) w ((w6.setCell ⟨g, i * 2, none⟩ (iv x)).setCell ⟨g, i * 2 + 1, none⟩ (iv y)) := by
            constructor
            · have h3 := (hown.stored (i * 2) (iv x)).1
              rw [(HS.out x y).1] at h3
              have h4 := (h3.stored (i * 2 + 1) (iv y)).1
              rw [(HS.out x y).2] at h4
              rw [HSN.out, if_neg (by rw [hE2]; exact Bool.false_ne_true)]
              have e : fullZ (l.take j) ++ [(x, y)] ++ (jt ++ [(x, y)]) ++ l.drop (j + 1) = fullZ (l.take j) ++ (x, y) :: jt ++ (x, y) :: l.drop (j + 1) := by simp
              rw [e]
              exact h4
            · exact (ht.trans (Turns.of_below b7)).trans (((Turns.refl (fun b => g = b) _).of_setCell (p := ⟨g, i * 2, none⟩) (.inl rfl) _).of_setCell (p := ⟨g, i * 2 + 1, none⟩) (.inl rfl) _)
          have HP := Lib.hid hP
          clear hP hown hlenH kb HO HS ht
          go_wp2_with fail
          refine ⟨⟨i + 1, j + 1, jt ++ [(x, y)], by go_num, by go_num, by omega, by omega, ?_, ?_, HP.out.1, HP.out.2⟩, by simp [intOf] <;> omega⟩
          · rw [HSN.out, if_neg (by rw [hE2]; exact Bool.false_ne_true), List.length_append, HFL.out]; rfl
          · have := HJL.out
            simp at this ⊢; omega
      · obtain rfl : j = n := by omega
        have hcap : j ≤ cap := by
          rcases hown.2 with ⟨h', _⟩ | ⟨g', cap', cur, h', _, _, hnc, _⟩
          · cases h'
          · cases h'; exact hnc
        have hci : ¬ cap = i := by omega
        have hic : i ≤ cap := by omega
        have hic2 : (i : Int) ≤ (cap : Int) := by omega
        have hown2 := own_cutS hown (i := i) (by omega)
        have hz : 0 < j - i := by omega
        have hclr := fun ty => run_clearS wr ty g (i * 2) (j - i) (cap - i) hz (fun q hq => by rw [hown.cellAt _ (by omega), List.getElem?_eq_getElem (by rw [hown.1]; omega)]; rfl) (fun q hq => hown.frozenAt _)
        have hidx2 : (i : Int) * 2 = ((i * 2 : Nat) : Int) := by omega
        have hil : (i : Int) ≤ (j : Int) := by omega
        have hi0 : (0 : Int) ≤ (i : Int) := by omega
        have hP : (wr.setCells g (i * 2) (List.replicate ((j - i) * 2) (iv 0))).ownsRow N 30 2 (.slice (some ⟨g, 0, none⟩) i cap) (fullZ l).length (spv (fullZ l)) ∧ Turns (fun k => (Value.slice (some ⟨g, 0, none⟩) j cap).ownBlock = some k) w (wr.setCells g (i * 2) (List.replicate ((j - i) * 2) (iv 0))) := by
          have hl := HN.out
          have e0 : l.take j = l := List.take_of_length_le (by omega)
          rw [List.append_assoc, spv_append, List.take_left' (by rw [spv_len, hfl]), e0] at hown2
          rw [e0] at hfl
          rw [hfl]
          exact ⟨own_beyond _ _ _ hown2 (Nat.le_refl _), (ht.trans (turns_setCells _ _ _)).mono fun k hk => by rw [← hk]; rfl⟩
        have HP := Lib.hid hP
        clear hown hown2 hP hfl hjl ht h he
        go_wp2_with fail
        go_ret
        exact ⟨_, rfl, HP.out.1, HP.out.2, rfl⟩
  · have hP : fullZ l = l := by
      unfold fullZ
      rw [List.filter_eq_self]
      intro s hs
      obtain ⟨i, hi, rfl⟩ := List.getElem_of_mem hs
      have := h1 i hi
      rw [getD_at hi] at this
      simp [this]
    have HP := Lib.hid hP
    clear h1 hP hidx
    have hown := own_below h b1
    go_wp2_with fail
    go_ret
    exact ⟨_, rfl, by rw [HP.out, HN.out]; exact hown, Turns.of_below b1, rfl⟩
end Go.Proofs.Ytjocgipjmcnjfaa

/- heads, Same. -/
import Derived.Test.YtnmbadkcjjlebaaDoorDigChain
import Derived.Test.YtnmbadkcjjlebaaDoorDigSplit
namespace Go.Proofs.YtnmbadkcjjlebaaDoor
open Go.RowKit

theorem run_append_none (W : World) (ty : TypeId) (v : Value) {base n : Nat} {xs : List Value} (hown : W.ownsRow base 9 1 v n xs) (c : Nat) : (Builtin.append_ #[22, 22] ty #[v, .slice none 0 c]).run Tryd.prog W = .ok v W := by
  obtain ⟨i0, hi0, hz0, hz1, hz2⟩ := info_parts infoStr
  rcases hown.2 with ⟨rfl, rfl⟩ | ⟨g, cap, cur, rfl, _, _, hnc, _⟩
  · simp [Builtin.append_, run_underlying Tryd.underlying22, sizeOf, typeInfo, hi0, Builtin.lenOf, Builtin.firstCells]
  · simp [Builtin.append_, run_underlying Tryd.underlying22, sizeOf, typeInfo, hi0, Builtin.lenOf, Builtin.firstCells, hnc, storeCells]
theorem wpList_append_none {ops : Array Oper} {rest : List Oper} {o : Oper} {a : Act} {W : World} {Q : Exit → Act → World → Prop} (hgd : o.guard = none) (s x : Operand)
    (ho : o.op = .call { callee := .builtin .append, args := #[s, x], argTypes := #[22, 22] }) (v : Value) {base n : Nat} {xs : List Value} (hs : a.eval s = v) (hown : W.ownsRow base 9 1 v n xs) (c : Nat) (hx : a.eval x = .slice none 0 c)
    (h : wpList Tryd.prog ops Q rest (a.put o.dst v) W) : wpList Tryd.prog ops Q (o :: rest) a W :=
  wpList_plain hgd fun _ hK => by
    have hr := run_append_none W o.type v hown c
    unfold Oper.wp execOp
    simp only [ho, resolve, invoke, builtin, Sem.run_bind, Sem.run_pure, Result.andThen_ok, List.map_toArray, List.map_cons, List.map_nil, hs, hx, hr]
    exact hK _ _ h

theorem made32' : madeCells (Value.int .u8 0).cells (32 * 1) = (u8s (List.replicate 32 0)).toArray := by kernel_rfl
theorem run_make32 (W : World) : (Instr.makeSlice 40 (.int .i64 32) (.int .i64 32)).run Tryd.prog W = .ok (.slice (some ⟨W.heap.size, 0, none⟩) 32 32) (W.alloc (.cells (u8s (List.replicate 32 0)).toArray 5)) := by
  obtain ⟨i0, hi, hz0, hz1, hz2⟩ := info_parts infoU8
  have h := run_make (P := Tryd.prog) W 40 5 i0 (.int .u8 0) Tryd.underlying40 hi hz0 .i64 .i64 32 32 (by omega) (by omega) (by rw [hz2]; omega) (by omega)
  rw [hz1, show (32 : Int).toNat = 32 from rfl, made32'] at h
  exact h
theorem run_zero32 (W : World) : Sem.run Tryd.prog (convert 40 9 (.slice (some ⟨W.heap.size, 0, none⟩) 32 32)) (W.alloc (.cells (u8s (List.replicate 32 0)).toArray 5)) = .ok (.string zero32) (W.alloc (.cells (u8s (List.replicate 32 0)).toArray 5)) :=
  strOf_u8s (n₀ := W.heap.size) (k := 32) (xs := List.replicate 32 0) rfl ⟨rfl, .inr ⟨W.heap.size, 32, _, rfl, Nat.le_refl _, heap_alloc_new _ _, Nat.le_refl _, by unfold maxLen; omega, rfl, rfl⟩⟩

theorem rev_take_succ {l : List ByteArray} {k : Nat} (h : k < l.length) : (l.take (k + 1)).reverse = l[k] :: (l.take k).reverse := by
  rw [List.take_succ_eq_append_getElem h, List.reverse_append]; rfl

set_option maxRecDepth 100000 in
set_option maxHeartbeats 2000000 in
theorem heads_any (ss : List ByteArray) (p : Option Addr) (cap : Nat) (w : World) (hl : ss.length ≤ 20) (hp : StrsAt w p ss) (hs : ∀ x ∈ ss, x.size ≤ 60) (hK : Keyed w) :
    Calls Tryd.prog 24 #[.slice p ss.length cap] w fun e w' => ∃ v, e = .returned (.tuple #[v, .string (headR ss.reverse)]) ∧ w'.ownsRow w.heap.size 9 1 v (strR ss.reverse).length (strv (strR ss.reverse)) ∧ Below w.heap.size w w' := by
  obtain ⟨i0, hi0, hz0, hz1, hz2⟩ := info_parts infoStr
  have HP := Lib.hid hp
  have HS := Lib.hid hs
  have HK := Lib.hid hK
  have hmk := run_make32 w
  have hcv := run_zero32 w
  have hb0 : Below w.heap.size w (w.alloc (.cells (u8s (List.replicate 32 0)).toArray 5)) := (Below.refl _ w).alloc (Nat.le_refl _) _
  clear hp hs hK
  generalize (u8s (List.replicate 32 0)).toArray = c32 at *
  have HZ : Hid (zero32 = headR (ss.take 0).reverse) := Lib.hid rfl
  generalize zero32 = z32 at *
  go_enter Tryd.func24, Tryd.ntmps24
  go_wp2_with fail
  clear hmk hcv
  generalize w.alloc (.cells c32 5) = w0 at *
  go_loopw [4, 5, 6] (fun h o i wr => ∃ k : Nat, i = .int .i64 k ∧ k ≤ ss.length ∧ h = .string (headR (ss.take k).reverse) ∧ wr.ownsRow w.heap.size 9 1 o (strR (ss.take k).reverse).length (strv (strR (ss.take k).reverse)) ∧ Below w.heap.size w wr) (fun _ _ i _ => ss.length - (intOf i).toNat)
  case atStart => exact ⟨0, rfl, by omega, by rw [HZ.out], ⟨rfl, .inl ⟨rfl, rfl⟩⟩, hb0⟩
  case round =>
    obtain ⟨k, rfl, hk, rfl, hown, hB⟩ := hrel
    by_cases hkn : k < ss.length
    · obtain ⟨b, off, rfl, hc0⟩ := HP.out k hkn
      have hlt := cell_lt' hc0
      have hc := (hB.cell (p := ⟨b, off + k, none⟩) hlt).trans hc0
      have hz := HS.out _ (List.getElem_mem hkn)
      have hst := Lib.hid (rev_take_succ hkn)
      have hlen : (strR (ss.take k).reverse).length ≤ 20 := by rw [strR_len, List.length_reverse, List.length_take]; omega
      have hH := headR_size (ss.take k).reverse
      have d1 : decide ((k : Int) < (ss.length : Int)) = true := decide_eq_true (by omega)
      have j0 : (0 : Int) ≤ (k : Int) := by omega
      have j1 : (k : Int) < (ss.length : Int) := by omega
      have HE : Hid (∀ x, strR (x :: (ss.take k).reverse) = (⟨#[2]⟩ ++ headR (ss.take k).reverse ++ x) :: strR (ss.take k).reverse ∧ headR (x :: (ss.take k).reverse) = chainZ (headR (ss.take k).reverse) x) := Lib.hid fun x => ⟨rfl, rfl⟩
      generalize ss[k] = x at *
      have hC := fun W (hb : Below w.heap.size w W) => chain_any (headR (ss.take k).reverse) x W (by omega) (by omega) (HK.out.below hb)
      obtain ⟨H, hHe⟩ : ∃ H, headR (ss.take k).reverse = H := ⟨_, rfl⟩
      obtain ⟨X, hXe⟩ : ∃ X, strR (ss.take k).reverse = X := ⟨_, rfl⟩
      rw [hHe] at hC HE hH ⊢
      rw [hXe] at hown hlen HE
      obtain ⟨S, hSe⟩ : ∃ S, (⟨#[2]⟩ : ByteArray) ++ H ++ x = S := ⟨_, rfl⟩
      have HE := Lib.hid (HE.out x)
      rw [hSe] at HE
      have own1 : (wr.alloc (.cells #[.string S] 9)).ownsRow w.heap.size 9 1 (.slice (some ⟨wr.heap.size, 0, none⟩) 1 1) 1 [.string S] :=
        ⟨rfl, .inr ⟨wr.heap.size, 1, #[.string S], rfl, hB.size, heap_alloc_new _ _, Nat.le_refl _, by unfold maxLen; omega, rfl, rfl⟩⟩
      have hB1 := hB.alloc hB.size (.cells #[.string S] 9)
      have hc1 := (hB1.cell (p := ⟨b, off + k, none⟩) hlt).trans hc0
      have hS1 : ((⟨#[2]⟩ : ByteArray) ++ H).size = 33 := by rw [ByteArray.size_append, hH]; rfl
      have hS2 : S.size ≤ 93 := by rw [← hSe, ByteArray.size_append, hS1]; omega
      clear hHe hXe hc0
      rcases hown.2 with ⟨rfl, hX0⟩ | ⟨g, cp, cur, rfl, hg1, hg2, hg3, hg4, hg5⟩
      · obtain rfl : X = [] := List.length_eq_zero_iff.1 hX0
        go_wp2_with (at_builtin; refine wpList_append_none rfl _ _ rfl _ rfl own1 0 rfl ?_)
        with_reducible refine Calls.mono (hC _ hB1) ?_; rintro e w5 ⟨rfl, b5⟩
        go_wp2
        go_roundw
        case rel =>
          refine ⟨k + 1, by go_num, by omega, ?_, ?_, bthen hB1 b5⟩
          · rw [hst.out, HE.out.2]
          · rw [hst.out, HE.out.1]
            exact own_below (by simpa [strv] using own1) b5
        case measure => simp [intOf]; omega
      · have hnews : ∀ j u, (strv X)[j]? = some u → (wr.alloc (.cells #[.string S] 9)).cell? ((⟨g, 0, none⟩ : Addr).add j) = some u := by
          intro j u hj
          have hjl : j < X.length := by have := (List.getElem?_eq_some_iff.1 hj).1; simpa [strv] using this
          have hadd : (⟨g, 0, none⟩ : Addr).add j = ⟨g, j, none⟩ := by unfold Addr.add; split <;> simp_all
          have h1 := hown.alloc (.cells #[.string S] 9)
          have h2 := h1.cellAt (j := j) (by omega)
          rw [hadd, h2]; exact hj
        go_wp2_with (at_builtin; refine wpList_append_own _ rfl _ _ 22 rfl w.heap.size 9 i0 (.string ⟨#[]⟩) 1 16 Tryd.underlying22 hi0 hz0 hz1 hz2 rfl (by decide) _ 1 [.string S] rfl own1 ⟨g, 0, none⟩ X.length cp (strv X) rfl (by simp [strv]) hnews (by simp [strv, Value.oneCell']) (by unfold maxLen; omega) (by omega) (by have := hB.size; simp; omega) ?_; intro v9 w9 own9 hgrow9 _; have hB9 : Below w.heap.size w w9 := hB1.grown hgrow9 hB1.size (own_le own1); have hc9 := (hB9.cell (p := ⟨b, off + k, none⟩) hlt).trans ((hB.cell (p := ⟨b, off + k, none⟩) hlt).symm.trans hc))
        with_reducible refine Calls.mono (hC _ hB9) ?_; rintro e w5 ⟨rfl, b5⟩
        go_wp2
        go_roundw
        case rel =>
          refine ⟨k + 1, by go_num, by omega, ?_, ?_, bthen hB9 b5⟩
          · rw [hst.out, HE.out.2]
          · rw [hst.out, HE.out.1]
            exact own_below (by simpa [strv, Nat.add_comm] using own9) b5
        case measure => simp [intOf]; omega
    · obtain rfl : k = ss.length := by omega
      have d1 : decide ((ss.length : Int) < (ss.length : Int)) = false := decide_eq_false (by omega)
      rw [List.take_length] at hown ⊢
      go_wp2
      go_ret2
      exact ⟨_, rfl, hown, hB⟩
end Go.Proofs.YtnmbadkcjjlebaaDoor

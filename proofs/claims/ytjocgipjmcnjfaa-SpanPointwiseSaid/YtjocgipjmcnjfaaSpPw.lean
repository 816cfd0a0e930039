/- SpanPointwise. -/
import Derived.Test.YtjocgipjmcnjfaaSpAlgM
import Derived.Test.YtjocgipjmcnjfaaSpSane
import Derived.Test.YtjocgipjmcnjfaaSpAdd
namespace Go.Proofs.Ytjocgipjmcnjfaa
open Go.RowKit Go.Shelf

theorem sh_cells {W : World} {n b o : Nat} {l : List (Int × Int)} (h : ShAt W n (some ⟨b, o, none⟩) l) : ∀ j u, (spv l)[j]? = some u → W.cell? ((⟨b, o, none⟩ : Addr).add j) = some u := by
  intro j u hj
  have hadd : (⟨b, o, none⟩ : Addr).add j = ⟨b, o + j, none⟩ := by unfold Addr.add; split <;> simp_all
  rw [hadd]
  have hl : j < (spv l).length := (List.getElem?_eq_some_iff.1 hj).1
  rw [spv_len] at hl
  obtain ⟨b', o', hp, -, q0, q1⟩ := h (j / 2) (by omega)
  simp only [Option.some.injEq, Addr.mk.injEq] at hp
  obtain ⟨rfl, rfl, -⟩ := hp
  obtain ⟨s0, s1⟩ := spv_get (l := l) (i := j / 2) (by omega)
  rcases (by omega : j % 2 = 0 ∨ j % 2 = 1) with e | e
  · rw [show j / 2 * 2 = j by omega] at s0 q0
    rw [hj] at s0
    rw [q0, s0]
  · rw [show j / 2 * 2 + 1 = j by omega] at s1
    rw [show o + j / 2 * 2 + 1 = o + j by omega] at q1
    rw [hj] at s1
    rw [q1, s1]
theorem run_append_zeroS (W : World) (ty : TypeId) (v : Value) {base n : Nat} {xs : List Value} (hown : W.ownsRow base 30 2 v n xs) (p : Option Addr) (c : Nat) : (Builtin.append_ #[22, 22] ty #[v, .slice p 0 c]).run Try.prog W = .ok v W := by
  obtain ⟨i0, hi0, hz0, hz1, hz2⟩ := info_parts infoS
  rcases hown.2 with ⟨rfl, rfl⟩ | ⟨g, cap, cur, rfl, _, _, hnc, _⟩
  · cases p <;> simp [Builtin.append_, run_underlying Try.underlying22, sizeOf, typeInfo, hi0, Builtin.lenOf, Builtin.firstCells, loadCells, loadCellsFrom]
  · cases p <;> simp [Builtin.append_, run_underlying Try.underlying22, sizeOf, typeInfo, hi0, Builtin.lenOf, Builtin.firstCells, hnc, storeCells, loadCells, loadCellsFrom]
theorem wpList_append_sh {ops : Array Oper} {rest : List Oper} {o : Oper} {a : Act} {W : World} {Q : Exit → Act → World → Prop} (hgd : o.guard = none) (s x : Operand)
    (ho : o.op = Op.call { callee := Callee.builtin Builtin.append, args := #[s, x], argTypes := #[22, 22] }) (v : Value) {base k n : Nat} {xs : List Value} (hs : a.eval s = v) (hown : W.ownsRow base 30 2 v k xs)
    (p : Option Addr) (c : Nat) (l : List (Int × Int)) (hx : a.eval x = .slice p l.length c) (hS : ShAt W n p l) (hk : k + l.length ≤ 1000) (hb : base ≤ W.heap.size)
    (hK : ∀ v' w', w'.ownsRow base 30 2 v' (k + l.length) (xs ++ spv l) → W.grownBy w' v.ownBlock → (∀ j, v'.ownBlock = some j → v.ownBlock = some j ∨ W.heap.size ≤ j) → wpList Try.prog ops Q rest (a.put o.dst v') w') : wpList Try.prog ops Q (o :: rest) a W := by
  obtain ⟨i0, hi0, hz0, hz1, hz2⟩ := info_parts infoS
  rcases l with _ | ⟨e, l⟩
  · refine wpList_plain hgd fun _ hKK => ?_
    have hr := run_append_zeroS W o.type v hown p c
    unfold Oper.wp execOp
    simp only [ho, resolve, invoke, builtin, Sem.run_bind, Sem.run_pure, Result.andThen_ok, List.map_toArray, List.map_cons, List.map_nil, hs, hx, List.length_nil, hr]
    exact hKK _ _ (hK v W (by simpa [spv] using hown) ⟨rfl, rfl, rfl, Nat.le_refl _, fun _ _ _ => rfl⟩ (fun j h => .inl h))
  · obtain ⟨b, off, rfl, -⟩ := hS 0 (by simp)
    exact wpList_append_mine W hgd s x 22 ho base 30 i0 (.agg #[.int .i64 0, .int .i64 0]) 2 16 Try.underlying22 hi0 hz0 hz1 hz2 rfl (by decide) v k xs hs hown ⟨b, off, none⟩ (e :: l).length c (spv (e :: l)) hx (spv_len _) (sh_cells hS) (spv_one _)
      (by unfold maxLen; omega) (by omega) hb (fun v' w' h1 h2 _ h4 => hK v' w' h1 h2 h4)
theorem infoI : (Try.prog.info? 3).map (fun i => (i.zero, i.size, i.bytes)) = some (some (.int .i64 0), 1, 8) := by kernel_rfl
theorem heldPA {w w8 : World} {bl i j n : Nat} {u v : Value} (hbl : bl < w.heap.size) (hn : n ≤ w.heap.size) (h : w8.cell? ⟨bl, i, none⟩ = some u ∧ w8.cell? ⟨bl, j, none⟩ = some v ∧ Below n w w8) (o : Obj) : (w8.alloc o).cell? ⟨bl, i, none⟩ = some u ∧ (w8.alloc o).cell? ⟨bl, j, none⟩ = some v ∧ Below n w (w8.alloc o) := by
  have hs := h.2.2.size
  have b : Below w8.heap.size w8 (w8.alloc o) := (Below.refl _ w8).alloc (Nat.le_refl _) o
  exact ⟨(b.cell (p := ⟨bl, i, none⟩) (by simp; omega)).trans h.1, (b.cell (p := ⟨bl, j, none⟩) (by simp; omega)).trans h.2.1, h.2.2.trans (b.mono (by omega))⟩
theorem heldPG {w w8 w9 : World} {bl i j n : Nat} {u v : Value} (hbl : bl < w.heap.size) (hn : n ≤ w.heap.size) (h : w8.cell? ⟨bl, i, none⟩ = some u ∧ w8.cell? ⟨bl, j, none⟩ = some v ∧ Below n w w8) {e : TypeId} {size : Nat} {r : Value} {k : Nat} {xs : List Value} (hg : w8.grownBy w9 r.ownBlock) (own : w8.ownsRow n e size r k xs) (hne : some bl ≠ r.ownBlock) :
    w9.cell? ⟨bl, i, none⟩ = some u ∧ w9.cell? ⟨bl, j, none⟩ = some v ∧ Below n w w9 := by
  have hs := h.2.2.size
  have eb : w9.heap[bl]? = w8.heap[bl]? := hg.block bl (by omega) hne
  exact ⟨(World.cell?_of_block (a := ⟨bl, i, none⟩) eb).trans h.1, (World.cell?_of_block (a := ⟨bl, j, none⟩) eb).trans h.2.1, keepG h.2.2 (by omega) hg own⟩
theorem both_own {W : World} {N : Nat} {v : Value} {a b : List (Int × Int)} (h : W.ownsRow N 30 2 v (0 + a.length + b.length) ([] ++ spv a ++ spv b)) : W.ownsRow N 30 2 v (a ++ b).length (spv (a ++ b)) := by
  rw [List.length_append, spv_append]; simpa using h
def ivs (l : List Int) : List Value := l.map iv

set_option maxRecDepth 100000 in
set_option maxHeartbeats 8000000 in
theorem pointwise_law (pa : Option Addr) (ca : Nat) (a : List (Int × Int)) (la : a.length ≤ 9223372036854775807) (ka : a.length ≤ ca) (ma : ca ≤ 9223372036854775807) (pb : Option Addr) (cb : Nat) (b : List (Int × Int)) (lb : b.length ≤ 9223372036854775807) (kb : b.length ≤ cb) (mb : cb ≤ 9223372036854775807) (w : World) (Sa : ShAt w w.heap.size pa a) (Ba : Bd a) (Sb : ShAt w w.heap.size pb b) (Bb : Bd b) (x : Int) :
    Calls Try.prog 6 #[.slice pa a.length ca, .slice pb b.length cb, iv x] w fun e w' => e = .returned (.bool true) ∧ Below w.heap.size w w' := by
  have Fa := fun W => few_any pa ca a W la ka ma
  have Sa := Sa.take 30
  have Ba := Ba.take 30
  have Na := few_len a
  have Ca : (a.take 30).length ≤ ca := Nat.le_trans (by rw [List.length_take]; omega) ka
  obtain ⟨na, hna⟩ : ∃ n, a.length = n := ⟨_, rfl⟩
  rw [hna] at Fa ⊢
  generalize a.take 30 = La at Fa Sa Ba Na Ca
  clear hna la ka ma
  have Fb := fun W => few_any pb cb b W lb kb mb
  have Sb := Sb.take 30
  have Bb := Bb.take 30
  have Nb := few_len b
  have Cb : (b.take 30).length ≤ cb := Nat.le_trans (by rw [List.length_take]; omega) kb
  obtain ⟨nb, hnb⟩ : ∃ n, b.length = n := ⟨_, rfl⟩
  rw [hnb] at Fb ⊢
  generalize b.take 30 = Lb at Fb Sb Bb Nb Cb
  clear hnb lb kb mb
  obtain ⟨ru, eu⟩ : ∃ r, uniZ La Lb = r := ⟨_, rfl⟩
  have Nu : ru.length ≤ 120 := by have h := uni_len Ba Bb; rw [eu] at h; omega
  have Hu := op_uni (a := La) (b := Lb) eu (by omega) (by omega) Ba Bb
  have Au : ascB ru = true := decide_eq_true (eu ▸ uniZ_asc La Lb)
  have Xu := uniZ_has La Lb
  rw [eu] at Xu
  obtain ⟨ri, ei⟩ : ∃ r, intZ La Lb = r := ⟨_, rfl⟩
  have Ni : ri.length ≤ 120 := by have h := int_len Ba Bb; rw [ei] at h; omega
  have Hi := op_int (a := La) (b := Lb) ei (by omega) (by omega) Ba Bb
  have Ai : ascB ri = true := decide_eq_true (ei ▸ intZ_asc La Lb)
  have Xi := intZ_has La Lb
  rw [ei] at Xi
  obtain ⟨rs, es⟩ : ∃ r, subZ La Lb = r := ⟨_, rfl⟩
  have Ns : rs.length ≤ 120 := by have h := sub_len Ba Bb; rw [es] at h; omega
  have Hs := op_sub (a := La) (b := Lb) es (by omega) (by omega) Ba Bb
  have As : ascB rs = true := decide_eq_true (es ▸ subZ_asc La Lb)
  have Xs := subZ_has La Lb
  rw [es] at Xs
  obtain ⟨rn, en⟩ : ∃ r, nrmZ La = r := ⟨_, rfl⟩
  have Nn : rn.length ≤ 30 := by have h := nrm_len La; rw [en] at h; omega
  have Hn := op_nrm (a := La) en (by omega)
  have An : ascB rn = true := decide_eq_true (en ▸ nrmZ_asc La)
  have Xn := nrmZ_has La
  rw [en] at Xn
  have Vu := fun W p c (h : ShAt W W.heap.size p ru) => valid_any p c ru W h (by omega)
  rw [Au] at Vu
  have Gu := fun W p c z (h : ShAt W W.heap.size p ru) => has_any p c ru z W h (by omega)
  have Ku := Lib.hid Xu
  have Vi := fun W p c (h : ShAt W W.heap.size p ri) => valid_any p c ri W h (by omega)
  rw [Ai] at Vi
  have Gi := fun W p c z (h : ShAt W W.heap.size p ri) => has_any p c ri z W h (by omega)
  have Ki := Lib.hid Xi
  have Vs := fun W p c (h : ShAt W W.heap.size p rs) => valid_any p c rs W h (by omega)
  rw [As] at Vs
  have Gs := fun W p c z (h : ShAt W W.heap.size p rs) => has_any p c rs z W h (by omega)
  have Ks := Lib.hid Xs
  have Vn := fun W p c (h : ShAt W W.heap.size p rn) => valid_any p c rn W h (by omega)
  rw [An] at Vn
  have Gn := fun W p c z (h : ShAt W W.heap.size p rn) => has_any p c rn z W h (by omega)
  have Kn := Lib.hid Xn
  have Ga := fun W p c z (h : ShAt W W.heap.size p La) => has_any p c La z W h (by omega)
  have Gb := fun W p c z (h : ShAt W W.heap.size p Lb) => has_any p c Lb z W h (by omega)
  clear eu ei es en Xu Xi Xs Xn Au Ai As An
  have bb0 := Below.refl w.heap.size w
  go_enter Try.func6, Try.ntmps6
  go_wp2_with fail
  refine Calls.mono (sane_any _) ?_
  rintro e w1 ⟨rfl, b⟩
  have bb1 := bthen bb0 b
  have Sa := Sa.into b
  have Sb := Sb.into b
  clear b
  go_wp2_with fail
  refine Calls.mono (Fa _) ?_
  rintro e w' ⟨rfl, rfl⟩
  go_wp2_with fail
  refine Calls.mono (Fb _) ?_
  rintro e w' ⟨rfl, rfl⟩
  go_wp2_with fail
  refine Calls.mono (Hu _ pa pb ca cb Sa Sb Ca Cb) ?_
  rintro e w2 ⟨v, rfl, o, b⟩
  have bb2 := bthen bb1 b
  have Sa := Sa.into b
  have Sb := Sb.into b
  obtain ⟨p0, c0, rfl, S0, C0⟩ := own_shc o
  clear o b
  go_wp2_with fail
  refine Calls.mono (Hi _ pa pb ca cb Sa Sb Ca Cb) ?_
  rintro e w3 ⟨v, rfl, o, b⟩
  have bb3 := bthen bb2 b
  have Sa := Sa.into b
  have Sb := Sb.into b
  have S0 := S0.into b
  obtain ⟨p1, c1, rfl, S1, C1⟩ := own_shc o
  clear o b
  go_wp2_with fail
  refine Calls.mono (Hs _ pa pb ca cb Sa Sb Ca Cb) ?_
  rintro e w4 ⟨v, rfl, o, b⟩
  have bb4 := bthen bb3 b
  have Sa := Sa.into b
  have Sb := Sb.into b
  have S0 := S0.into b
  have S1 := S1.into b
  obtain ⟨p2, c2, rfl, S2, C2⟩ := own_shc o
  clear o b
  go_wp2_with fail
  refine Calls.mono (Hn _ pa ca Sa) ?_
  rintro e w5 ⟨v, rfl, o, b⟩
  have bb5 := bthen bb4 b
  have Sa := Sa.into b
  have Sb := Sb.into b
  have S0 := S0.into b
  have S1 := S1.into b
  have S2 := S2.into b
  obtain ⟨p3, c3, rfl, S3, C3⟩ := own_shc o
  clear o b
  go_wp2_with fail
  refine Calls.mono (Vu _ p0 c0 S0) ?_
  rintro e w6 ⟨rfl, b⟩
  have bb6 := bthen bb5 b
  have Sa := Sa.into b
  have Sb := Sb.into b
  have S0 := S0.into b
  have S1 := S1.into b
  have S2 := S2.into b
  have S3 := S3.into b
  clear b
  go_wp2_with fail
  refine Calls.mono (Vi _ p1 c1 S1) ?_
  rintro e w7 ⟨rfl, b⟩
  have bb7 := bthen bb6 b
  have Sa := Sa.into b
  have Sb := Sb.into b
  have S0 := S0.into b
  have S1 := S1.into b
  have S2 := S2.into b
  have S3 := S3.into b
  clear b
  go_wp2_with fail
  refine Calls.mono (Vs _ p2 c2 S2) ?_
  rintro e w8 ⟨rfl, b⟩
  have bb8 := bthen bb7 b
  have Sa := Sa.into b
  have Sb := Sb.into b
  have S0 := S0.into b
  have S1 := S1.into b
  have S2 := S2.into b
  have S3 := S3.into b
  clear b
  go_wp2_with fail
  refine Calls.mono (Vn _ p3 c3 S3) ?_
  rintro e w9 ⟨rfl, b⟩
  have bb9 := bthen bb8 b
  have Sa := Sa.into b
  have Sb := Sb.into b
  have S0 := S0.into b
  have S1 := S1.into b
  have S2 := S2.into b
  have S3 := S3.into b
  clear b
  obtain ⟨i0, hi0, hz0, hz1, hz2⟩ := info_parts infoI
  clear Hu Hi Hs Hn Vu Vi Vs Vn Fa Fb bb0 bb1 bb2 bb3 bb4 bb5 bb6 bb7 bb8
  obtain ⟨N, hN⟩ : ∃ N, w9.heap.size = N := ⟨_, rfl⟩
  have oT : ((w9.alloc (.cells #[iv x] 3)).alloc (.cells #[] 30)).ownsRow N 3 1 (.slice (some ⟨N, 0, none⟩) 1 1) 1 [iv x] := by
    rw [← hN]
    exact ⟨rfl, .inr ⟨w9.heap.size, 1, #[iv x], rfl, Nat.le_refl _, (Arr.new w9 3 [iv x]).alloc _, Nat.le_refl _, by unfold maxLen; omega, rfl, rfl⟩⟩
  have oB : ((w9.alloc (.cells #[iv x] 3)).alloc (.cells #[] 30)).ownsRow N 30 2 (.slice (some ⟨N + 1, 0, none⟩) 0 0) 0 [] := by
    rw [← hN]
    exact ⟨rfl, .inr ⟨w9.heap.size + 1, 0, #[], rfl, by omega, Arr.new' 30 [] (by simp), Nat.le_refl _, Nat.zero_le _, rfl, rfl⟩⟩
  have bW : Below w9.heap.size w9 ((w9.alloc (.cells #[iv x] 3)).alloc (.cells #[] 30)) := ((Below.refl _ _).alloc (Nat.le_refl _) _).alloc (by simp) _
  have hNW : N ≤ ((w9.alloc (.cells #[iv x] 3)).alloc (.cells #[] 30)).heap.size := by rw [← hN]; simp; omega
  have hN1 : N + 1 < ((w9.alloc (.cells #[iv x] 3)).alloc (.cells #[] 30)).heap.size := by rw [← hN]; simp
  have Sa2 := Sa.below bW
  have Sb2 := Sb.below bW
  have HT := Lib.hid oT
  have HW := Lib.hid bW
  have HN1 := Lib.hid hN1
  rw [hN] at Sa2 Sb2
  clear oT bW hN1
  go_wp2_with (first | (at_builtin; (refine wpList_append_sh rfl _ _ rfl _ rfl oB pa ca La rfl Sa2 (by omega) hNW ?_; intro vA wA oA hgA hnA)) | (at_builtin; (refine wpList_append_sh rfl _ _ rfl vA rfl oA pb cb Lb rfl (Sb2.below (keepG (Below.refl _ _) hNW hgA oB)) (by omega) (Nat.le_trans hNW hgA.size) ?_; intro vB wB oB2 hgB hnB; obtain ⟨pB, cB, hvB, SB⟩ := own_sh (both_own oB2); subst hvB)))

  have bB : Below N w9 wB := by
    have h0 := HW.out
    rw [hN] at h0
    exact (h0.trans (keepG (Below.refl _ _) hNW hgA oB)).trans (keepG (Below.refl _ _) (Nat.le_trans hNW hgA.size) hgB oA)
  have hgA : World.grownBy _ wA (some (N + 1)) := hgA
  have hnA : ∀ j, vA.ownBlock = some j → some (N + 1) = some j ∨ _ ≤ j := hnA
  have o1 := HT.out.kept hgA (.inr (fun e => by simp [Value.ownBlock] at e))
  have o2 := o1.kept hgB (.inr (fun e => by
    rcases hnA N e.symm with h | h
    · simp at h
    · have := HN1.out; omega))
  have ob := both_own oB2
  have hzA := hgA.size
  have hdis : ∀ j, (Value.slice pB (La ++ Lb).length cB).ownBlock = some j → (Value.slice (some ⟨N, 0, none⟩) 1 1).ownBlock ≠ some j := fun j hj e => by
    simp [Value.ownBlock] at e
    subst e
    have h1 := HN1.out
    rcases hnB N hj with h | h
    · rcases hnA N h with h' | h'
      · simp at h'
      · omega
    · omega
  obtain ⟨m, hm'⟩ : ∃ m, La.length + Lb.length = m := ⟨_, rfl⟩
  have hm : (La ++ Lb).length = m := by rw [List.length_append]; exact hm'
  have hm60 : m ≤ 60 := by rw [← hm, List.length_append]; omega
  generalize hLL : La ++ Lb = L at *
  rw [hm] at ob hdis
  rw [hm']
  have HM := Lib.hid hm
  clear hLL hm hm' oB oA oB2 hgA hgB hnA hnB SB HT HW o1 hzA Sa2 Sb2 hNW HN1
  go_wp2_with fail
  go_loopw [12, 14] (fun s12 s14 wr => ∃ (k : Nat) (zs : List Int) (v : Value), v = s12 ∧ s14 = .int .i64 k ∧ k ≤ m ∧ zs.length = 1 + 4 * k ∧ wr.ownsRow N 3 1 v zs.length (ivs zs) ∧ wr.ownsRow N 30 2 (.slice pB m cB) m (spv L) ∧ (∀ j, (Value.slice pB m cB).ownBlock = some j → v.ownBlock ≠ some j) ∧ Below N w9 wr) (fun _ s14 _ => m - (intOf s14).toNat)
  case atStart => exact ⟨0, [x], _, rfl, rfl, Nat.zero_le _, rfl, o2, ob, hdis, bB⟩
  case round =>
    clear o2 ob hdis bB
    obtain ⟨k, zs, v, hv, rfl, hk, hzl, own, ob, hdis, hb⟩ := hrel
    subst hv
    have hsz : N ≤ wr.heap.size := by have := hb.size; omega
    by_cases hlt : k < m
    · have hmm := HM.out
      obtain ⟨p3, c3, he, S3⟩ := own_sh (l := L) (by rw [hmm]; exact ob)
      rw [hmm] at he
      cases he
      obtain ⟨bl, o, rfl, hbl, q0, q1⟩ := S3 k (by omega)
      obtain ⟨X, hX⟩ : ∃ X, L.getD k (0, 0) = X := ⟨_, rfl⟩
      rw [hX] at q0 q1
      obtain ⟨f, t⟩ := X
      dsimp only at q0 q1
      obtain ⟨f1, hf1⟩ : ∃ f1, IntKind.i64.wrap (f - 1) = f1 := ⟨_, rfl⟩
      obtain ⟨t1, ht1⟩ : ∃ t1, IntKind.i64.wrap (t - 1) = t1 := ⟨_, rfl⟩
      have hidx : (k : Int) * 2 = ((k * 2 : Nat) : Int) := by omega
      have hkm : (k : Int) < (m : Int) := by omega
      have hk0 : (0 : Int) ≤ (k : Int) := by omega
      have hne : some bl ≠ v.ownBlock := fun e => hdis bl rfl e.symm
      have hst : wr.drew.cell? ⟨bl, o + k * 2, none⟩ = some (iv f) ∧ wr.drew.cell? ⟨bl, o + k * 2 + 1, none⟩ = some (iv t) ∧ Below N wr wr.drew := ⟨q0, q1, (Below.refl _ _).drew⟩
      have hz9 : zs.length ≤ 241 := by omega
      have hil : (ivs zs).length = zs.length := by simp [ivs]
      have HD := Lib.hid hdis
      have HOB := Lib.hid ob
      clear hX q0 q1 hmm S3 hdis ob
      go_wp2_with fail
      go_region_held3 (fun w' => w'.cell? ⟨bl, o + k * 2, none⟩ = some (iv f) ∧ w'.cell? ⟨bl, o + k * 2 + 1, none⟩ = some (iv t) ∧ Below N wr w') (first | assumption | exact hst | exact heldPA hbl hsz (by assumption) _ | exact heldPG hbl hsz (heldPA hbl hsz hst _) hgrow9 (own.drew.alloc _) hne | fail)
        (first | (refine step_append_lies _ (by rfl) _ _ 36 (by rfl) N 3 i0 (.int .i64 0) 1 8 Try.underlying36 hi0 hz0 hz1 hz2 rfl (by omega) _ zs.length (ivs zs) (by rfl) (own.drew.alloc _) ⟨wr.heap.size, 0, none⟩ 4 4 [iv f, iv t, iv f1, iv t1] (by rfl) (by rfl) (cells_new _ _ _) (by simp [Value.oneCell']) (by omega) (by unfold maxLen; omega) (by omega) (by simp; omega) (wr.heap.size + 1) (by simp) ?_; intro gg cap9 wx hown9 hgrow9 hat9 hlt9) | fail)
      all_goals
        rename_i hHeld
        have hb9 := hb.trans hHeld.2.2
        have ob9 := (HOB.out.drew.alloc (.cells #[iv f, iv t, iv f1, iv t1] 3)).kept hgrow9 (.inr hne)
        have HO9 := Lib.hid hown9
        have HAT := Lib.hid hat9
        clear hown9 hHeld hst hat9 hgrow9
        go_wp2_with fail
        refine ⟨⟨k + 1, zs ++ [f, t, f1, t1], _, rfl, by go_num, by omega, by simp; omega, ?_, ob9, fun j hj e => ?_, hb9⟩, by simp [intOf] <;> omega⟩
        · rw [List.length_append]
          show World.ownsRow _ _ _ _ _ (zs.length + 4) (ivs (zs ++ [f, t, f1, t1]))
          rw [show ivs (zs ++ [f, t, f1, t1]) = ivs zs ++ [iv f, iv t, iv f1, iv t1] by simp [ivs]]
          have h := HO9.out
          rw [hzl] at h ⊢
          exact h
        · simp [Value.ownBlock] at e
          subst e
          rcases HAT.out with h | h
          · exact HD.out _ hj h
          · simp [Value.ownBlock] at hj; omega
    · obtain rfl : k = m := by omega
      obtain ⟨wo, rfl⟩ : ∃ W, W = wr := ⟨_, rfl⟩
      obtain ⟨nz, hnz⟩ : ∃ n, zs.length = n + 1 := ⟨4 * k, by omega⟩
      rw [hnz] at own
      obtain ⟨g, cap, rfl⟩ := ownsRow_succ own
      have bwo : Below w9.heap.size w9 wo := by rw [hN]; exact hb
      have Sa := Sa.into bwo
      have Sb := Sb.into bwo
      have S0 := S0.into bwo
      have S1 := S1.into bwo
      have S2 := S2.into bwo
      have S3 := S3.into bwo
      have bbo := bthen bb9 bwo
      have hnz9 : nz + 1 ≤ 241 := by omega
      have hcell : ∀ i, i < nz + 1 → wo.cell? ⟨g, i, none⟩ = some (iv (zs.getD i 0)) := fun i hi => by
        rw [own.cellAt i (by omega)]
        simp only [ivs, List.getElem?_map, List.getD_eq_getElem?_getD]
        rw [List.getElem?_eq_getElem (by omega)]; rfl
      have hgl := (own.lt g rfl).2
      have HC := Lib.hid hcell
      clear own ob hdis hzl hnz hcell hb bwo
      go_wp2_with fail
      go_loopw [15] (fun s wr => ∃ i : Nat, s = .int .i64 i ∧ i ≤ nz + 1 ∧ Below wo.heap.size wo wr) (fun s _ => nz + 1 - (intOf s).toNat)
      case atStart => exact ⟨0, rfl, Nat.zero_le _, Below.refl _ _⟩
      case round =>
        obtain ⟨i, rfl, hi, hb⟩ := hrel
        have hsz := hb.size
        by_cases hlt : i < nz + 1
        · have hc : wr.cell? ⟨g, i, none⟩ = some (iv (zs.getD i 0)) := (hb.cell (p := ⟨g, i, none⟩) hgl).trans (HC.out i hlt)
          obtain ⟨z, hz⟩ : ∃ z, zs.getD i 0 = z := ⟨_, rfl⟩
          rw [hz] at hc
          obtain ⟨P, hP⟩ : ∃ P, hasZ La z = P := ⟨_, rfl⟩
          obtain ⟨Q, hQ⟩ : ∃ Q, hasZ Lb z = Q := ⟨_, rfl⟩
          have eu := Ku.out z
          have ei := Ki.out z
          have es := Ks.out z
          have en := Kn.out z
          rw [hP] at eu ei es en
          rw [hQ] at eu ei es
          have ca := fun W (h : Below wr.heap.size wr W) => hP ▸ Ga W pa ca z ((Sa.into hb).into h)
          have cb := fun W (h : Below wr.heap.size wr W) => hQ ▸ Gb W pb cb z ((Sb.into hb).into h)
          have cu := fun W (h : Below wr.heap.size wr W) => eu ▸ Gu W p0 c0 z ((S0.into hb).into h)
          have ci := fun W (h : Below wr.heap.size wr W) => ei ▸ Gi W p1 c1 z ((S1.into hb).into h)
          have cs := fun W (h : Below wr.heap.size wr W) => es ▸ Gs W p2 c2 z ((S2.into hb).into h)
          have cn := fun W (h : Below wr.heap.size wr W) => en ▸ Gn W p3 c3 z ((S3.into hb).into h)
          have hin : (i : Int) < ((nz + 1 : Nat) : Int) := by omega
          have hi0' : (0 : Int) ≤ (i : Int) := by omega
          have hgw : g < wr.heap.size := by omega
          clear hz hP hQ eu ei es en Ga Gb Gu Gi Gs Gn
          have HCW := Lib.hid hc
          cases P <;> cases Q
          all_goals
            simp only [Bool.or_false, Bool.or_true, Bool.and_false, Bool.and_true, Bool.not_false, Bool.not_true, Bool.false_or, Bool.true_or] at ca cb cu ci cs cn
            go_wp2_with fail
            refine (ca _ (Below.refl _ _)).mono ?_
            rintro e wa ⟨rfl, b1⟩
            have hc := (b1.cell (p := ⟨g, i, none⟩) hgw).trans HCW.out
            go_wp2_with fail
            refine (cb _ b1).mono ?_
            rintro e wb ⟨rfl, b2⟩
            have b12 := bthen b1 b2
            have hc := (b12.cell (p := ⟨g, i, none⟩) hgw).trans HCW.out
            go_wp2_with fail
            refine (cu _ b12).mono ?_
            rintro e wc ⟨rfl, b3⟩
            have b13 := bthen b12 b3
            have hc := (b13.cell (p := ⟨g, i, none⟩) hgw).trans HCW.out
            go_wp2_with fail
            refine (ci _ b13).mono ?_
            rintro e wd ⟨rfl, b4⟩
            have b14 := bthen b13 b4
            have hc := (b14.cell (p := ⟨g, i, none⟩) hgw).trans HCW.out
            go_wp2_with fail
            refine (cs _ b14).mono ?_
            rintro e we ⟨rfl, b5⟩
            have b15 := bthen b14 b5
            have hc := (b15.cell (p := ⟨g, i, none⟩) hgw).trans HCW.out
            go_wp2_with fail
            refine (cn _ b15).mono ?_
            rintro e wf ⟨rfl, b6⟩
            have b16 := bthen b15 b6
            go_wp2_with fail
            exact ⟨⟨i + 1, by go_num, by omega, hb.trans (b16.mono hsz)⟩, by simp [intOf] <;> omega⟩
        · obtain rfl : i = nz + 1 := by omega
          go_wp2_with fail
          go_ret
          exact ⟨rfl, bthen bbo hb⟩
end Go.Proofs.Ytjocgipjmcnjfaa

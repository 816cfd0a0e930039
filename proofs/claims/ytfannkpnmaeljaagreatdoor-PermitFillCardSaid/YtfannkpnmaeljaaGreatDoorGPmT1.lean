import Derived.Test.YtfannkpnmaeljaaGreatDoorGSp2
import Derived.Test.YtfannkpnmaeljaaGreatDoorGSpT2
import Derived.Test.YtfannkpnmaeljaaGreatDoorGPm2
import Derived.Test.YtfannkpnmaeljaaGreatDoorGRiT4
import Derived.Test.YtfannkpnmaeljaaGreatDoorGCal3
set_option linter.unusedVariables false
set_option linter.unusedSimpArgs false
/- A range over an iterator that hands out lists of spans which it makes on the way. -/
namespace Go.Proofs.YtfannkpnmaeljaaGreatDoor
open Go.RowKit

/-- A list of spans, as it is handed out: somewhere in memory. -/
def RelL (x : List (Int × Int)) (v : Value) (W : World) : Prop := ∃ p cap, v = .slice p x.length cap ∧ x.length ≤ cap ∧ ShAt W W.heap.size p x
theorem RelL.put {x : List (Int × Int)} {v : Value} {W W' : World} {l : Nat} {r : Loop} (h : RelL x v W) (hl : W.heap[l]? = some (.loop r)) (hs : W.heap.size ≤ W'.heap.size) (ho : ∀ k, k ≠ l → W'.heap[k]? = W.heap[k]?) : RelL x v W' := by
  obtain ⟨p, cap, rfl, hc, hS⟩ := h
  refine ⟨p, cap, rfl, hc, fun i hi => ?_⟩
  obtain ⟨b, o, rfl, hb, h0, h1⟩ := hS i hi
  have hne : b ≠ l := by
    rintro rfl
    simp [World.cell?, hl] at h0
  have e : ∀ j, W'.cell? ⟨b, j, none⟩ = W.cell? ⟨b, j, none⟩ := fun j => by simp only [World.cell?, ho b hne]
  exact ⟨b, o, rfl, by omega, by rw [e]; exact h0, by rw [e]; exact h1⟩

/-- An iterator's contract: it hands the lists of T to the body, in their order, until the body leaves. It reads the blocks of Dep. -/
def HandsR (F : Fence) (n : Nat) (P : Program) (g : Nat) (lb : Array Value) (Dep : Nat → Prop) (T : List (List (Int × Int))) (w : World) : Prop :=
  ∀ (l : Nat) (J Jx : List (List (Int × Int)) → (Nat → Prop) → World → Prop) (M : Nat → Prop) (W : World), Below w.heap.size w W → (∀ k, M k → k < W.heap.size ∧ ¬ Dep k) →
    (∀ xs M A B, J xs M A → Turns (fun k => W.heap.size ≤ k ∧ ¬ M k) A B → J xs M B) →
    (∀ xs M A B, Jx xs M A → Turns (fun k => W.heap.size ≤ k ∧ ¬ M k) A B → Jx xs M B) →
    (∀ pre x M W1 v, J pre M W1 → pre ++ [x] <+: T → RelL x v W1 → YieldAt F (n - 1) P l #[v] W1 fun e W' => ∃ M',
      ((e = .returned (.bool true) ∧ Grown M M' W1 W' ∧ J (pre ++ [x]) M' W') ∨ (e = .returned (.bool false) ∧ Jx (pre ++ [x]) M' W'))) →
    J [] M W →
    CallsIn F n P g (#[.func (.yield l) #[] #[]] ++ lb) W fun e W' => (∃ v, e = .returned v) ∧ ((∃ M', J T M' W') ∨ ∃ pre M', pre <+: T ∧ Jx pre M' W')

variable {F : Fence} {n : Nat} {P : Program}

theorem wpIn_rangeFunc_handsR {g : Operand} {ps : Array Tmp} {assign body : Code} {Q : Exit → Act → World → Prop} {a : Act} {w : World}
    (hro : F.round = none) (h1 : 1 ≤ n) {gf : Nat} {lb : Array Value} (hg : a.eval g = .func (.func gf) #[] lb) (hFg : F.fn gf) (eg : ∀ args w, (callFunc gf args).run P w = .ok (.enter gf args) w)
    {Dep : Nat → Prop} {T : List (List (Int × Int))} {w0 : World} (hseq : HandsR F (n - 1) P gf lb Dep T w0)
    (hb0 : Below w0.heap.size w0 w) (hps : ps.size = 1)
    (I : List (List (Int × Int)) → (Nat → Prop) → World → Prop) (Ix : Code → List (List (Int × Int)) → (Nat → Prop) → World → Prop)
    (hI : ∀ xs M A B, I xs M A → Turns (fun k => w.heap.size ≤ k ∧ ¬ M k) A B → I xs M B)
    (hIx : ∀ c xs M A B, Ix c xs M A → Turns (fun k => w.heap.size ≤ k ∧ ¬ M k) A B → Ix c xs M B)
    (M0 : Nat → Prop) (hM0 : ∀ k, M0 k → k < w.heap.size ∧ ¬ Dep k) (h0 : I [] M0 w) (a₁ : Value → Act)
    (hassign : ∀ (l : Nat) (x : List (Int × Int)) (v : Value) (W : World) (K : Act → World → Prop), RelL x v W → K (a₁ v) W →
      assign.wpIn (F.inRound l) (n - 1 - 1) P (Exit.then K (fun _ _ _ => False)) { tmps := (ps.zip #[v]).foldl (fun t (p, v) => t.setIfInBounds p v) a.tmps, defers := [] } W)
    (hbody : ∀ (l : Nat) (pre : List (List (Int × Int))) (x : List (Int × Int)) (v : Value) (M : Nat → Prop) (W : World), I pre M W → pre ++ [x] <+: T → RelL x v W → (∀ k, M k → k < W.heap.size) → w.heap.size ≤ W.heap.size →
      body.wpIn (F.inRound l) (n - 1 - 1) P (roundOut I Ix (pre ++ [x]) M W) (a₁ v) W)
    (hdone : ∀ (D : Nat) (M : Nat → Prop) (W : World), w.heap.size ≤ D → ¬ M D → I T M W → W.heap[D]? = some (.deferred (some [])) → Q .normal { a with defers := { target := .collected D, args := #[] } :: a.defers } W)
    (hstop : ∀ (D : Nat) (c : Code) (pre : List (List (Int × Int))) (M : Nat → Prop) (W : World), w.heap.size ≤ D → ¬ M D → pre <+: T → Ix c pre M W → W.heap[D]? = some (.deferred (some [])) → c.wpIn F n P Q { a with defers := { target := .collected D, args := #[] } :: a.defers } W) :
    (Code.rangeFunc g ps assign body).wpIn F n P Q a w := by
  refine wpIn_rangeFunc fun fn hfn => ?_
  rw [hro]
  have hrec : ∃ rec : LoopState → Option Code → Loop, ∀ st pe, rec st pe = { state := st, pending := pe, fn, tmps := a.tmps, params := ps, assign, body, defers := w.heap.size } := ⟨_, fun _ _ => rfl⟩
  obtain ⟨rec, hrec⟩ := hrec
  have hrun := run_enterLoop_outer (P := P) (w := w) fn a.tmps ps assign body
  rw [← hrec] at hrun
  have hL : ((w.alloc (.deferred (some []))).alloc (.loop (rec .ready none))).heap[w.heap.size + 1]? = some (.loop (rec .ready none)) := by
    have := World.alloc_heap_new (w.alloc (.deferred (some []))) (.loop (rec .ready none)); rwa [World.size_alloc] at this
  have hK : ((w.alloc (.deferred (some []))).alloc (.loop (rec .ready none))).heap[w.heap.size]? = some (.deferred (some [])) :=
    (Below.heap_alloc _ _ _ (by simp)).trans (World.alloc_heap_new w _)
  have hB : Below w.heap.size w ((w.alloc (.deferred (some []))).alloc (.loop (rec .ready none))) := ((Below.refl _ w).alloc (Nat.le_refl _) _).alloc (by simp) _
  have hz : ((w.alloc (.deferred (some []))).alloc (.loop (rec .ready none))).heap.size = w.heap.size + 2 := by simp
  generalize (w.alloc (.deferred (some []))).alloc (.loop (rec .ready none)) = W1 at *
  obtain ⟨l, hl⟩ : ∃ l, w.heap.size + 1 = l := ⟨_, rfl⟩
  obtain ⟨D, hD⟩ : ∃ D, w.heap.size = D := ⟨_, rfl⟩
  rw [hl] at hL hrun
  rw [hD] at hK hrun hrec
  have hlD : l ≠ D := by omega
  have hlt : w.heap.size ≤ l := by omega
  have hDt : w.heap.size ≤ D := by omega
  have hM1 : ∀ k, M0 k → k < W1.heap.size ∧ ¬ Dep k := fun k hk => ⟨by have := (hM0 k hk).1; omega, (hM0 k hk).2⟩
  have hst : ∀ (M : Nat → Prop) (A B : World), Turns (fun k => W1.heap.size ≤ k ∧ ¬ M k) A B → Turns (fun k => w.heap.size ≤ k ∧ ¬ M k) A B := fun M A B h => h.mono fun k hk => ⟨by omega, hk.2⟩
  refine ⟨l, [{ target := .collected D, args := #[] }], W1, { target := .fn (.func gf) lb, args := #[.func (.yield l) #[] #[]] }, W1, gf,
    #[.func (.yield l) #[] #[]] ++ lb, W1, hrun, ?_, ?_, ?_, fun _ => h1, ?_⟩
  · simp only [resolve, hg]; simp [go_sem]
  · intro f' hf'; simp [Target.leads] at hf'; subst hf'; exact hFg
  · simp [invoke, go_sem, eg]
  · refine (hseq l
      (fun pre M W => I pre M W ∧ W.heap[l]? = some (.loop (rec .ready none)) ∧ W.heap[D]? = some (.deferred (some [])) ∧ ¬ M l ∧ ¬ M D ∧ ∀ k, M k → k < W.heap.size)
      (fun pre M W => ∃ c, Ix c pre M W ∧ W.heap[l]? = some (.loop (rec .done (some c))) ∧ W.heap[D]? = some (.deferred (some [])) ∧ ¬ M l ∧ ¬ M D)
      M0 W1 (hb0.trans (hB.mono hb0.size)) hM1
      (fun xs M A B h ht => ⟨hI _ _ _ _ h.1 (hst _ _ _ ht), (ht.block l (Array.getElem?_eq_some_iff.1 h.2.1).1 (fun hk => by omega)).trans h.2.1, (ht.block D (Array.getElem?_eq_some_iff.1 h.2.2.1).1 (fun hk => by omega)).trans h.2.2.1, h.2.2.2.1, h.2.2.2.2.1, fun k hk => Nat.lt_of_lt_of_le (h.2.2.2.2.2 k hk) ht.size⟩)
      (fun xs M A B h ht => by
        obtain ⟨c, h1, h2, h3, h4, h5⟩ := h
        exact ⟨c, hIx _ _ _ _ _ h1 (hst _ _ _ ht), (ht.block l (Array.getElem?_eq_some_iff.1 h2).1 (fun hk => by omega)).trans h2, (ht.block D (Array.getElem?_eq_some_iff.1 h3).1 (fun hk => by omega)).trans h3, h4, h5⟩)
      ?_ ⟨hI _ _ _ _ h0 (Turns.of_below hB), hL, hK, fun hm => by have := (hM0 _ hm).1; omega, fun hm => by have := (hM0 _ hm).1; omega, fun k hk => (hM1 k hk).1⟩).mono ?_
    · rintro pre x M W v ⟨hi, hwl, hwk, hml, hmd, hmlt⟩ hpre hrel
      have hlt' : l < W.heap.size := (Array.getElem?_eq_some_iff.1 hwl).1
      have hy := run_yield (P := P) (args := #[v]) hwl (by rw [hrec]; exact hps.symm)
      rw [hrec] at hy
      refine ⟨fn, _, assign, body, hy, roundIn_of_wpIn hfn (hassign _ x v W _ hrel ?_)⟩
      have hW' : Below W.heap.size W W := Below.refl _ _
      have hl' := (hW'.block _ hlt').trans hwl
      have hk' := (hW'.block D (by omega)).trans hwk
      refine ⟨_, run_beginRound hl' (by rw [hrec]), ?_⟩
      obtain ⟨X, hX⟩ : ∃ X, W.putObj l (.loop { rec .ready none with state := .busy }) = X := ⟨_, rfl⟩
      have xt : Turns (fun k => w.heap.size ≤ k ∧ ¬ M k) W X := hX ▸ (Turns.refl _ _).of_put ⟨hlt, hml⟩ _
      have xl : X.heap[l]? = some (.loop { rec .ready none with state := .busy }) := hX ▸ World.putObj_heap_same (Array.getElem?_eq_some_iff.1 hl').1
      have xo : ∀ k, k ≠ l → X.heap[k]? = W.heap[k]? := fun k hk => hX ▸ World.putObj_heap_other hk
      have xz : X.heap.size = W.heap.size := by rw [← hX]; simp
      have xe : X.os = W.os ∧ X.tape = W.tape ∧ X.output = W.output := ⟨xt.os, xt.tape, xt.output⟩
      have wz := hW'.size
      rw [hX]
      have hiX := hI _ _ _ _ (hI _ _ _ _ hi (Turns.of_below hW')) xt
      refine wpIn_mono (hbody _ pre x v M X hiX hpre (hrel.put hwl (by omega) xo) (fun k hk => by have := hmlt k hk; omega) (by omega)) ?_
      have fin : ∀ (jump : Option Code) (M' : Nat → Prop) (Y : World), Grown M M' X Y →
          (Instr.endRound l jump).run P Y = .ok (.bool jump.isNone) (Y.putObj l (.loop (rec (if jump.isNone then .ready else .done) jump))) ∧
          Turns (fun k => w.heap.size ≤ k ∧ ¬ M' k) Y (Y.putObj l (.loop (rec (if jump.isNone then .ready else .done) jump))) ∧
          (Y.putObj l (.loop (rec (if jump.isNone then .ready else .done) jump))).heap[l]? = some (.loop (rec (if jump.isNone then .ready else .done) jump)) ∧
          (Y.putObj l (.loop (rec (if jump.isNone then .ready else .done) jump))).heap[D]? = some (.deferred (some [])) ∧ ¬ M' l ∧ ¬ M' D := fun jump M' Y hG => by
        have ml : ¬ M' l := fun h => by rcases hG.new _ h with h | h; exact hml h; omega
        have md : ¬ M' D := fun h => by rcases hG.new _ h with h | h; exact hmd h; omega
        have yl := (hG.turns.block l (by omega) ml).trans xl
        have yk := (hG.turns.block D (by omega) md).trans ((xo D (fun e => hlD e.symm)).trans hk')
        have yz := hG.turns.size
        have hend := run_endRound (P := P) jump yl
        exact ⟨by rw [hrec] at hend ⊢; exact hend, (Turns.refl _ _).of_put ⟨hlt, ml⟩ _, World.putObj_heap_same (by omega), (World.putObj_heap_other (fun e => hlD e.symm)).trans yk, ml, md⟩
      rintro e a3 Y hp
      cases e with
      | normal =>
        obtain ⟨M', hG, hi3⟩ := hp
        obtain ⟨hr, ht, hl4, hk4, ml, md⟩ := fin none M' Y hG
        have yz := hG.turns.size
        refine ⟨_, _, hr, M', .inl ⟨rfl, ⟨hG.keep, fun k hk => ?_, fun k hk => ?_, ?_, ?_, ?_, ?_, fun k hk hn => ?_⟩, hI _ _ _ _ hi3 ht, hl4, hk4, ml, md, fun k hk => ?_⟩⟩
        · rcases hG.new _ hk with h | h
          · exact .inl h
          · exact .inr (by omega)
        · have := hG.lt _ hk; simpa using this
        · exact hG.turns.os.trans (xe.1.trans hW'.os)
        · exact hG.turns.tape.trans (xe.2.1.trans hW'.tape)
        · exact hG.turns.output.trans (xe.2.2.trans hW'.output)
        · simp; omega
        · by_cases e : k = l
          · subst e; exact hl4.trans hwl.symm
          · rw [World.putObj_heap_other e, hG.turns.block k (by omega) hn, xo k e, hW'.block k hk]
        · have := hG.lt _ hk; simpa using this
      | ret =>
        obtain ⟨M', hG, hi3⟩ := hp
        obtain ⟨hr, ht, hl4, hk4, ml, md⟩ := fin (some .ret) M' Y hG
        exact ⟨_, _, hr, M', .inr ⟨rfl, .ret, hIx _ _ _ _ _ hi3 ht, hl4, hk4, ml, md⟩⟩
      | exit id =>
        obtain ⟨M', hG, hi3⟩ := hp
        obtain ⟨hr, ht, hl4, hk4, ml, md⟩ := fin (some (.exit id)) M' Y hG
        exact ⟨_, _, hr, M', .inr ⟨rfl, .exit id, hIx _ _ _ _ _ hi3 ht, hl4, hk4, ml, md⟩⟩
      | goto t =>
        obtain ⟨M', hG, hi3⟩ := hp
        obtain ⟨hr, ht, hl4, hk4, ml, md⟩ := fin (some (.goto t)) M' Y hG
        exact ⟨_, _, hr, M', .inr ⟨rfl, .goto t, hIx _ _ _ _ _ hi3 ht, hl4, hk4, ml, md⟩⟩
      | panic ch => exact hp.elim
      | outgrown => exact hp.elim
    · rintro e W2 ⟨⟨v, rfl⟩, (⟨M', hi, hwl, hwk, hml, hmd, hmlt⟩ | ⟨pre, M', hp, c, hi, hwl, hwk, hml, hmd⟩)⟩
      · have hend := run_endLoop (P := P) hwl (by rw [hrec]; simp)
        rw [show (rec LoopState.ready none).pending = none by rw [hrec]] at hend
        exact ⟨none, _, hend, hdone D M' _ hDt hmd (hI _ _ _ _ hi ((Turns.refl _ _).of_put ⟨hlt, hml⟩ _)) ((World.putObj_heap_other (fun e => hlD e.symm)).trans hwk)⟩
      · have hend := run_endLoop (P := P) hwl (by rw [hrec]; simp)
        rw [show (rec LoopState.done (some c)).pending = some c by rw [hrec]] at hend
        exact ⟨some c, _, hend, hstop D c pre M' _ hDt hmd hp (hIx _ _ _ _ _ hi ((Turns.refl _ _).of_put ⟨hlt, hml⟩ _)) ((World.putObj_heap_other (fun e => hlD e.symm)).trans hwk)⟩
end Go.Proofs.YtfannkpnmaeljaaGreatDoor

/- restrictions: the sets of seconds that restrict an item, handed out one by one. -/
namespace Go.Proofs.YtfannkpnmaeljaaGreatDoor
open Go.RowKit Go.Shelf
attribute [local go_sem] Oper.semAt_some

theorem own_rel {w : World} {N : Nat} {v : Value} {l : List (Int × Int)} (h : w.ownsRow N 34 2 v l.length (spv l)) : RelL l v w := by
  obtain ⟨p, cap, rfl, hS⟩ := own_sh h
  refine ⟨p, cap, rfl, ?_, hS⟩
  rcases h.2 with ⟨h', h0⟩ | ⟨g, cap', cur, h', hb, hg, hnc, h4⟩
  · omega
  · cases h'; exact hnc

set_option maxHeartbeats 1000000 in
theorem restr_in (F : Fence) (n : Nat) (hf : F.fn 66) (hro : F.round = none) (P : Pl) (q : Pq) (x : It) (r a b : Int) (w : World) :
    CallsIn F n Tryz.prog 66 #[.agg (plL P q).toArray, .agg (itL x).toArray, iv r, .agg #[iv a, iv b]] w fun e w' => e = .returned (.func (.func 84) #[] #[.pointer (some ⟨w.heap.size, 0, none⟩), .pointer (some ⟨w.heap.size + 1, 0, none⟩), .pointer (some ⟨w.heap.size + 2, 0, none⟩), .pointer (some ⟨w.heap.size + 3, 0, none⟩)]) ∧
      w' = (((w.alloc (.cells (plL P q).toArray 32)).alloc (.cells (itL x).toArray 60)).alloc (.cells #[iv r] 3)).alloc (.cells #[iv a, iv b] 34) := by
  refine callsIn_of_wp Tryz.func66 rfl hf ?_ hro
  simp only [Tryz.ntmps66, List.size_toArray, List.length_cons, List.length_nil, Nat.reduceAdd, Nat.reduceSub, Array.replicate_succ, Array.replicate_zero, List.push_toArray, List.append_toArray, List.nil_append, List.cons_append]
  gi_wp2
  go_ret
  exact ⟨rfl, rfl⟩

theorem sets_step {T : List (List (Int × Int))} {s0 : List (Int × Int)} {wl : List (Int × Int)} {f : Int × Int → List (Int × Int)} (h : T = s0 :: wl.map f) {k : Nat} (hk : k < wl.length) : T.take (k + 1 + 1) = T.take (k + 1) ++ [f (wl.getD k (0, 0))] := by
  subst h
  rw [List.take_succ_eq_append_getElem (by simp; omega), getD_at hk]
  simp
set_option maxRecDepth 100000 in
set_option maxHeartbeats 4000000 in
theorem restr_hands (n : Nat) (hn : 1 ≤ n) (A B C D n₀ : Nat) (P : Pl) (q : Pq) (x : It) (r a b : Int) (w : World)
    (hn0 : n₀ ≤ w.heap.size) (hA : Arr w A 32 (plL P q)) (hB : Arr w B 60 (itL x)) (hC : Arr w C 3 [iv r]) (hD : Arr w D 34 [iv a, iv b]) (hP : PlAt w n₀ P q)
    (hT : tmZ P = true) (a0 : 0 ≤ a) (ab : a ≤ b) (b1 : b ≤ 10000000000) (hl : b - a ≤ 1000000) :
    HandsR Fence.wide n Tryz.prog 84 #[.pointer (some ⟨A, 0, none⟩), .pointer (some ⟨B, 0, none⟩), .pointer (some ⟨C, 0, none⟩), .pointer (some ⟨D, 0, none⟩)] (fun k => k < n₀ ∨ k = A ∨ k = B ∨ k = C ∨ k = D) (setsZ P x r (a, b)) w := by
  have hwide : ∀ f, Fence.wide.fn f := fun _ => trivial
  have hro : Fence.wide.round = none := rfl
  intro lp J Jx M0 W hW hM hJ hJx hY h0
  have hWs := hW.size
  have hAW := hA.below hW hA.lt
  have hBW := hB.below hW hB.lt
  have hCW := hC.below hW hC.lt
  have hDW := hD.below hW hD.lt
  have hPW := hP.below (hW.mono hn0)
  have hAl := hAW.lt
  have hBl := hBW.lt
  have hCl := hCW.lt
  have hDl := hDW.lt
  have hMC : ∀ k, M0 k → k < W.heap.size ∧ n₀ ≤ k ∧ k ≠ A ∧ k ≠ B ∧ k ≠ C ∧ k ≠ D := fun k hk => by
    have := hM k hk
    simp only [not_or] at this
    omega
  have hnW : n₀ ≤ W.heap.size := by omega
  have c12 := hAW.cell (i := 12) rfl
  have d0 := hBW.cell (i := 0) rfl
  have e0 := hCW.cell (i := 0) rfl
  have hlc := hP.lc
  have hspn := spn_any q.pc q.cc P.cls x.id r W (hPW.cls.mono hnW) (by omega)
  clear hA hB hC hD hM
  obtain ⟨T, hTe⟩ : ∃ T, setsZ P x r (a, b) = T := ⟨_, rfl⟩
  rw [hTe] at hY ⊢
  have HT := Lib.hid hTe
  clear hTe
  refine callsIn_of_wp Tryz.func84 rfl (hwide _) ?_ hro
  simp only [Tryz.ntmps84, List.size_toArray, List.length_cons, List.length_nil, Nat.reduceAdd, Nat.reduceSub, Array.replicate_succ, Array.replicate_zero, List.push_toArray, List.append_toArray, List.nil_append, List.cons_append]
  gi_wp2_with fail
  refine (callsIn_wide.2 hspn).mono ?_
  rintro e w1 ⟨v1, rfl, o1, b1'⟩
  have hrel1 := own_rel o1
  have hJ1 := hJ _ _ _ _ h0 (Turns.of_below b1')
  gi_wp2_with fail
  have hpre1 : [] ++ [spnZ P.cls x.id r] <+: T := HT.out ▸ ⟨_, rfl⟩
  obtain ⟨fn, tmps, assign, body, hy, hR⟩ := hY [] (spnZ P.cls x.id r) M0 w1 v1 hJ1 hpre1 hrel1
  rw [hy]
  gi_wp2
  refine hR.mono ?_
  rintro e W3 ⟨M1, (⟨rfl, hG, hJ3⟩ | ⟨rfl, hJx3⟩)⟩
  case' inr =>
    gi_wp2
    refine bodyPost_ret (results_none rfl _ _ _) rfl ?_
    exact ⟨⟨_, rfl⟩, .inr ⟨_, M1, hpre1, hJx3⟩⟩
  have z1 := b1'.size
  have m1 : ∀ j, M1 j → j < W3.heap.size ∧ n₀ ≤ j ∧ j ≠ A ∧ j ≠ B ∧ j ≠ C ∧ j ≠ D := fun j hj => by
    have h1 := hG.lt j hj
    rcases hG.new j hj with h | h
    · have := hMC j h; exact ⟨h1, this.2⟩
    · exact ⟨h1, by omega⟩
  have z3 := hG.turns.size
  have ka := hG.turns.arr (hAW.below b1' hAl) (fun h => (m1 _ h).2.2.1 rfl)
  have kb := hG.turns.arr (hBW.below b1' hBl) (fun h => (m1 _ h).2.2.2.1 rfl)
  have kd := hG.turns.arr (hDW.below b1' hDl) (fun h => (m1 _ h).2.2.2.2.2 rfl)
  have kp := (hPW.below (b1'.mono hnW)).below (hG.turns.below (by omega) (fun j hj => (m1 j hj).2.1))
  clear hR hy hspn hrel1 hJ1 o1 c12 d0 e0 hG hMC h0 hAW hBW hCW hDW hPW hpre1 hP
  have c12 := ka.cell (i := 12) rfl
  have d4 := kb.cell (i := 4) rfl
  have hwsh := wsh_any q.pc q.cc P.cls x.rt W3 (kp.cls.mono (by omega)) (by omega)
  have hwl := wsh_len P.cls x.rt
  have hset : T = spnZ P.cls x.id r :: (wshZ P.cls x.rt).map fun w => Cal.spansZ P.off P.sh a b w.1 w.2 := HT.out.symm
  have hmath := fun w (hw : w ∈ wshZ P.cls x.rt) => spans_math hT a0 ab b1 hl hw
  have hok := fun w (hw : w ∈ wshZ P.cls x.rt) => wsh_ok hw
  obtain ⟨-, hvz, -, -⟩ := tm_rt hT
  obtain ⟨wl, hwle⟩ : ∃ wl, wshZ P.cls x.rt = wl := ⟨_, rfl⟩
  rw [hwle] at hwsh hwl hset hmath hok
  have hJ3' : J (T.take 1) M1 W3 := by rw [hset]; exact hJ3
  have HSET := Lib.hid hset
  have HMA := Lib.hid hmath
  have HOK := Lib.hid hok
  clear hJ3 hwle hset hmath hok hT HT
  gi_wp2_with fail
  refine (callsIn_wide.2 hwsh).mono ?_
  rintro e w4 ⟨v4, rfl, o4, b4⟩
  have hJ4 := hJ _ _ _ _ hJ3' (Turns.of_below b4)
  have z4 := b4.size
  have m4 : ∀ j, M1 j → j < w4.heap.size ∧ n₀ ≤ j ∧ j ≠ A ∧ j ≠ B ∧ j ≠ C ∧ j ≠ D := fun j hj => by have := m1 j hj; omega
  have hv4 : ∀ j, v4.ownBlock = some j → j < w4.heap.size ∧ ¬ M1 j := fun j hj => by
    have h1 := own_le o4 j hj
    have h2 := (o4.lt j hj).2
    exact ⟨h2, fun h => by have := m1 j h; omega⟩
  obtain ⟨pw, cw, rfl, hS4⟩ := own_sh o4
  have ka := ka.below b4 (by omega)
  have kb := kb.below b4 (by omega)
  have kd := kd.below b4 (by omega)
  have kp := kp.below (b4.mono (by omega))
  have hwlen : wl.length ≤ 20 := by omega
  have b01 : wl.length ≤ 9223372036854775807 := by omega
  clear hwsh hJ3' c12 d4 kb
  gi_wp2_with fail
  gi_loopw [23] (fun i wr => ∃ (k : Nat) (M : Nat → Prop), i = .int .i64 k ∧ k ≤ wl.length ∧ J (T.take (k + 1)) M wr ∧ (∀ j, M j → j < wr.heap.size ∧ n₀ ≤ j ∧ j ≠ A ∧ j ≠ B ∧ j ≠ C ∧ j ≠ D) ∧
      Arr wr A 32 (plL P q) ∧ Arr wr D 34 [iv a, iv b] ∧ PlAt wr n₀ P q ∧ wr.ownsRow W3.heap.size 34 2 (.slice pw wl.length cw) wl.length (spv wl) ∧
      (∀ j, (Value.slice pw wl.length cw).ownBlock = some j → j < wr.heap.size ∧ ¬ M j) ∧ W.heap.size ≤ wr.heap.size)
    (fun i _ => wl.length - (intOf i).toNat)
  case atStart => exact ⟨0, M1, rfl, Nat.zero_le _, hJ4, m4, ka, kd, kp, o4, hv4, by omega⟩
  case round =>
    clear hJ4 m4 ka kd kp o4 hv4 hS4 m1
    obtain ⟨k, M, rfl, hk, hJs, hMs, ka, kd, kp, ko, hvn, hWr⟩ := hrel
    by_cases hlt : k < wl.length
    · have hSw : ShAt wr wr.heap.size pw wl := by
        obtain ⟨p', c', h, hS⟩ := own_sh ko
        cases h
        exact hS
      obtain ⟨g, o, rfl, hg, q0, q1⟩ := hSw k hlt
      have hmem : wl.getD k (0, 0) ∈ wl := by rw [getD_at hlt]; exact List.getElem_mem hlt
      have hm := HMA.out _ hmem
      have ho := HOK.out _ hmem
      have hstep := sets_step HSET.out hlt
      generalize wl.getD k (0, 0) = X at q0 q1 hm ho hstep
      obtain ⟨u, v⟩ := X
      dsimp only at q0 q1 hm ho hstep
      have hidx : (k : Int) * 2 = ((k * 2 : Nat) : Int) := by omega
      have i1 : (0 : Int) ≤ (k : Int) := by omega
      have i2 : (k : Int) < (wl.length : Int) := by omega
      have hAl := ka.lt
      have hDl := kd.lt
      have b0 : Below wr.heap.size wr (wr.alloc (.cells #[iv u, iv v] 34)) := (Below.refl _ _).alloc (Nat.le_refl _) _
      have hn0r : n₀ ≤ wr.heap.size := by omega
      have hsp := Cal.spans_any P.off a b u v q.ps q.cs P.sh (wr.alloc (.cells #[iv u, iv v] 34)) ((kp.sh.mono hn0r).into b0) kp.ls
        (by rw [Cal.okSod_iff.2 ⟨ho.1, ho.2.1⟩, Cal.okSod_iff.2 ⟨ho.2.2.1, ho.2.2.2.1⟩, hvz]; unfold Cal.longZ; simp; omega) (by omega) (by omega) (by omega) (by omega)
      have ka0 := ka.below b0 hAl
      have kd0 := kd.below b0 hDl
      have c3 := ka0.cell (i := 3) rfl
      have c4 := ka0.cell (i := 4) rfl
      have d0 := kd0.cell (i := 0) rfl
      have d1 := kd0.cell (i := 1) rfl
      have hpre : T.take (k + 1 + 1) <+: T := List.take_prefix _ _
      rw [hstep] at hpre
      clear hSw hmem hm ho
      gi_wp2_with fail
      refine (callsIn_wide.2 hsp).mono ?_
      rintro e w5 ⟨v5, rfl, o5, b5⟩
      have b05 := bthen b0 b5
      have hrel5 := own_rel (show w5.ownsRow _ 34 2 v5 _ (spv (Cal.spansZ P.off P.sh a b u v)) from o5)
      have hJ5 := hJ _ _ _ _ hJs (Turns.of_below b05)
      have z5 := b05.size
      clear hsp c3 c4 d0 d1 ka0 kd0 o5
      gi_wp2_with fail
      obtain ⟨fn2, tmps2, assign2, body2, hy, hR⟩ := hY _ _ M w5 v5 hJ5 hpre hrel5
      rw [hy]
      gi_wp2
      refine hR.mono ?_
      rintro e W6 ⟨M', (⟨rfl, hG, hJ6⟩ | ⟨rfl, hJx6⟩)⟩
      · have m0 : ∀ j, M' j → j < W6.heap.size ∧ n₀ ≤ j ∧ j ≠ A ∧ j ≠ B ∧ j ≠ C ∧ j ≠ D := fun j hj => by
          have h1 := hG.lt j hj
          rcases hG.new j hj with h | h
          · have := hMs j h; exact ⟨h1, this.2⟩
          · exact ⟨h1, by omega⟩
        have z6 := hG.turns.size
        have ka6 := hG.turns.arr (ka.below b05 hAl) (fun h => (m0 _ h).2.2.1 rfl)
        have kd6 := hG.turns.arr (kd.below b05 hDl) (fun h => (m0 _ h).2.2.2.2.2 rfl)
        have kp6 := (kp.below (b05.mono hn0r)).below (hG.turns.below (by omega) (fun j hj => (m0 j hj).2.1))
        have hv6 : ∀ j, (Value.slice (some ⟨g, o, none⟩) wl.length cw).ownBlock = some j → j < W6.heap.size ∧ ¬ M' j := fun j hj => by
          have h1 := hvn j hj
          refine ⟨by omega, fun h => ?_⟩
          rcases hG.new j h with h | h
          · exact h1.2 h
          · omega
        have ko6 := hG.turns.row (own_below ko b05) (fun j hj => (hv6 j hj).2)
        rw [← hstep] at hJ6
        clear hR hJ5
        gi_wp2_with fail
        exact ⟨⟨k + 1, M', by go_num, by omega, hJ6, m0, ka6, kd6, kp6, ko6, hv6, by omega⟩, by simp [intOf]; omega⟩
      · gi_wp2
        refine bodyPost_ret (results_none rfl _ _ _) rfl ?_
        exact ⟨⟨_, rfl⟩, .inr ⟨_, M', hpre, hJx6⟩⟩
    · obtain rfl : k = wl.length := by omega
      rw [List.take_of_length_le (by rw [HSET.out]; simp)] at hJs
      gi_wp2_with fail
      go_end0
      exact ⟨⟨_, rfl⟩, .inl ⟨M, hJs⟩⟩
end Go.Proofs.YtfannkpnmaeljaaGreatDoor

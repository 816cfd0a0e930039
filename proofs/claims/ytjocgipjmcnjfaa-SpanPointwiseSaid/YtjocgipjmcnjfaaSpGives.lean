/- A range over an iterator that keeps memory of its own: the body owns a set of blocks, which may grow; it may be left by a jump. -/
import Derived.Test.YtjocgipjmcnjfaaSpFns
namespace Go.Proofs.Ytjocgipjmcnjfaa
open Go.RowKit

/-- B is A but for the blocks of M and new ones. -/
structure Turns (M : Nat → Prop) (A B : World) : Prop where
  os : B.os = A.os
  tape : B.tape = A.tape
  output : B.output = A.output
  size : A.heap.size ≤ B.heap.size
  block : ∀ k, k < A.heap.size → ¬ M k → B.heap[k]? = A.heap[k]?

theorem Turns.refl (M : Nat → Prop) (A : World) : Turns M A A := ⟨rfl, rfl, rfl, Nat.le_refl _, fun _ _ _ => rfl⟩
theorem Turns.trans {M : Nat → Prop} {A B C : World} (h : Turns M A B) (k : Turns M B C) : Turns M A C :=
  ⟨k.os.trans h.os, k.tape.trans h.tape, k.output.trans h.output, Nat.le_trans h.size k.size, fun i hi hn => (k.block i (Nat.lt_of_lt_of_le hi h.size) hn).trans (h.block i hi hn)⟩
theorem Turns.mono {M N : Nat → Prop} {A B : World} (h : Turns M A B) (hmn : ∀ k, M k → N k) : Turns N A B :=
  ⟨h.os, h.tape, h.output, h.size, fun k hk hn => h.block k hk (fun hm => hn (hmn k hm))⟩
theorem Turns.of_below {M : Nat → Prop} {A B : World} (h : Below A.heap.size A B) : Turns M A B :=
  ⟨h.os, h.tape, h.output, h.size, fun k hk _ => h.block k hk⟩
theorem Turns.below {M : Nat → Prop} {A B : World} {n : Nat} (h : Turns M A B) (hn : n ≤ A.heap.size) (hm : ∀ k, M k → n ≤ k) : Below n A B :=
  ⟨h.os, h.tape, h.output, h.size, fun k hk => h.block k (by omega) (fun hM => by have := hm k hM; omega)⟩
theorem Turns.arr {M : Nat → Prop} {A B : World} (h : Turns M A B) {C : Nat} {t : TypeId} {vs : List Value} (ha : Arr A C t vs) (hM : ¬ M C) : Arr B C t vs := (h.block C ha.lt hM).trans ha
theorem Turns.of_setCell {M : Nat → Prop} {A B : World} (h : Turns M A B) {p : Addr} (hp : M p.block ∨ A.heap.size ≤ p.block) (u : Value) : Turns M A (B.setCell p u) := by
  refine ⟨h.os, h.tape, h.output, by simpa using h.size, fun k hk hn => ?_⟩
  rw [Below.heap_setCell _ _ _ _ (fun e => by subst e; rcases hp with hp | hp; exact hn hp; omega)]
  exact h.block k hk hn
theorem Turns.of_alloc {M : Nat → Prop} {A B : World} (h : Turns M A B) (o : Obj) : Turns M A (B.alloc o) := by
  refine ⟨h.os, h.tape, h.output, by have := h.size; simp; omega, fun k hk hn => ?_⟩
  rw [Below.heap_alloc _ _ _ (by have := h.size; omega)]
  exact h.block k hk hn
theorem Turns.of_put {M : Nat → Prop} {A B : World} (h : Turns M A B) {l : Nat} (hl : M l) (o : Obj) : Turns M A (B.putObj l o) := by
  refine ⟨h.os, h.tape, h.output, by simpa using h.size, fun k hk hn => ?_⟩
  exact (World.putObj_heap_other (by intro e; subst e; exact hn hl)).trans (h.block k hk hn)
theorem Turns.row {M : Nat → Prop} {A B : World} {n₀ : Nat} {e : TypeId} {size : Nat} {v : Value} {n : Nat} {xs : List Value} (h : Turns M A B) (ho : A.ownsRow n₀ e size v n xs) (hM : ∀ j, v.ownBlock = some j → ¬ M j) : B.ownsRow n₀ e size v n xs := by
  obtain ⟨h1, h2⟩ := ho
  refine ⟨h1, ?_⟩
  rcases h2 with h2 | ⟨g, cap, cur, e1, e2, e3, e4⟩
  · exact .inl h2
  · exact .inr ⟨g, cap, cur, e1, e2, (h.block g (Array.getElem?_eq_some_iff.1 e3).1 (hM g (by rw [e1]; rfl))).trans e3, e4⟩

/-- The body's blocks after a round: those before and new ones; it has turned no others. -/
structure Grown (M M' : Nat → Prop) (W W' : World) : Prop where
  keep : ∀ k, M k → M' k
  new : ∀ k, M' k → M k ∨ W.heap.size ≤ k
  lt : ∀ k, M' k → k < W'.heap.size
  turns : Turns M' W W'

def roundOut {α : Type} (I : List α → (Nat → Prop) → World → Prop) (Ix : Code → List α → (Nat → Prop) → World → Prop) (xs : List α) (M : Nat → Prop) (W : World) : Exit → Act → World → Prop
  | .normal, _, W' => ∃ M', Grown M M' W W' ∧ I xs M' W'
  | .ret, _, W' => ∃ M', Grown M M' W W' ∧ Ix .ret xs M' W'
  | .exit id, _, W' => ∃ M', Grown M M' W W' ∧ Ix (.exit id) xs M' W'
  | .goto t, _, W' => ∃ M', Grown M M' W W' ∧ Ix (.goto t) xs M' W'
  | .panic _, _, _ => False
  | .outgrown, _, _ => False

/-- An iterator's contract: it hands the elements of T to the body, in their order, until the body leaves. It reads the blocks of Dep. -/
def Hands {α : Type} (F : Fence) (n : Nat) (P : Program) (g : Nat) (lb : Array Value) (encs : α → Array Value) (Dep : Nat → Prop) (T : List α) (w : World) : Prop :=
  ∀ (l : Nat) (J Jx : List α → (Nat → Prop) → World → Prop) (M : Nat → Prop) (W : World), Below w.heap.size w W → (∀ k, M k → k < W.heap.size ∧ ¬ Dep k) →
    (∀ xs M A B, J xs M A → Turns (fun k => W.heap.size ≤ k ∧ ¬ M k) A B → J xs M B) →
    (∀ xs M A B, Jx xs M A → Turns (fun k => W.heap.size ≤ k ∧ ¬ M k) A B → Jx xs M B) →
    (∀ pre x M W1, J pre M W1 → pre ++ [x] <+: T → YieldAt F (n - 1) P l (encs x) W1 fun e W' => ∃ M',
      ((e = .returned (.bool true) ∧ Grown M M' W1 W' ∧ J (pre ++ [x]) M' W') ∨ (e = .returned (.bool false) ∧ Jx (pre ++ [x]) M' W'))) →
    J [] M W →
    CallsIn F n P g (#[.func (.yield l) #[] #[]] ++ lb) W fun e W' => (∃ v, e = .returned v) ∧ ((∃ M', J T M' W') ∨ ∃ pre M', pre <+: T ∧ Jx pre M' W')

variable {F : Fence} {n : Nat} {P : Program}

theorem wpIn_rangeFunc_hands {α : Type} {g : Operand} {ps : Array Tmp} {assign body : Code} {Q : Exit → Act → World → Prop} {a : Act} {w : World}
    (hro : F.round = none) (h1 : 1 ≤ n) {gf : Nat} {lb : Array Value} (hg : a.eval g = .func (.func gf) #[] lb) (hFg : F.fn gf) (eg : ∀ args w, (callFunc gf args).run P w = .ok (.enter gf args) w)
    {encs : α → Array Value} {Dep : Nat → Prop} {T : List α} {w0 : World} (hseq : Hands F (n - 1) P gf lb encs Dep T w0)
    (hb0 : Below w0.heap.size w0 w) (hps : ∀ x, (encs x).size = ps.size)
    (I : List α → (Nat → Prop) → World → Prop) (Ix : Code → List α → (Nat → Prop) → World → Prop)
    (hI : ∀ xs M A B, I xs M A → Turns (fun k => w.heap.size ≤ k ∧ ¬ M k) A B → I xs M B)
    (hIx : ∀ c xs M A B, Ix c xs M A → Turns (fun k => w.heap.size ≤ k ∧ ¬ M k) A B → Ix c xs M B)
    (M0 : Nat → Prop) (hM0 : ∀ k, M0 k → k < w.heap.size ∧ ¬ Dep k) (h0 : I [] M0 w) (tb : TypeId) (vx : α → List Value) (a₁ : Nat → α → Act)
    (hassign : ∀ (l : Nat) (x : α) (W : World) (K : Act → World → Prop), (∀ g W', W.heap.size ≤ g → Below W.heap.size W W' → Arr W' g tb (vx x) → K (a₁ g x) W') →
      assign.wpIn (F.inRound l) (n - 1 - 1) P (Exit.then K (fun _ _ _ => False)) { tmps := (ps.zip (encs x)).foldl (fun t (p, v) => t.setIfInBounds p v) a.tmps, defers := [] } W)
    (hbody : ∀ (l : Nat) (pre : List α) (x : α) (g : Nat) (M : Nat → Prop) (W : World), I pre M W → pre ++ [x] <+: T → Arr W g tb (vx x) → ¬ M g → (∀ k, M k → k < W.heap.size) → w.heap.size ≤ W.heap.size →
      body.wpIn (F.inRound l) (n - 1 - 1) P (roundOut I Ix (pre ++ [x]) M W) (a₁ g x) W)
    (hdone : ∀ (D : Nat) (M : Nat → Prop) (W : World), w.heap.size ≤ D → ¬ M D → I T M W → W.heap[D]? = some (.deferred (some [])) → Q .normal { a with defers := { target := .collected D, args := #[] } :: a.defers } W)
    (hstop : ∀ (D : Nat) (c : Code) (pre : List α) (M : Nat → Prop) (W : World), w.heap.size ≤ D → ¬ M D → pre <+: T → Ix c pre M W → W.heap[D]? = some (.deferred (some [])) → c.wpIn F n P Q { a with defers := { target := .collected D, args := #[] } :: a.defers } W) :
    (Code.rangeFunc g ps assign body).wpIn F n P Q a w := by
  refine wpIn_rangeFunc fun fn hfn => ?_
  rw [hro]
  have hrec : ∃ rec : LoopState → Option Code → Loop, ∀ st pe, rec st pe = { state := st, pending := pe, fn, tmps := a.tmps, params := ps, assign, body, defers := w.heap.size } := ⟨_, fun _ _ => rfl⟩
  obtain ⟨rec, hrec⟩ := hrec
  have hrun := run_enterLoop_outer (P := P) (w := w) fn a.tmps ps assign body
  rw [← hrec] at hrun
  have hL : ((w.alloc (.deferred (some []))).alloc (.loop (rec .ready none))).heap[w.heap.size + 1]? = some (.loop (rec .ready none)) := by
    have := World.alloc_heap_new (w.alloc (.deferred (some []))) (.loop (rec .ready none)); rwa [World.size_alloc] at this
  have hK : ((w.alloc (.deferred (some []))).alloc (.loop (rec .ready none))).heap[w.heap.size]? = some (.deferred (some [])) :=
    (Below.heap_alloc _ _ _ (by simp)).trans (World.alloc_heap_new w _)
  have hB : Below w.heap.size w ((w.alloc (.deferred (some []))).alloc (.loop (rec .ready none))) := ((Below.refl _ w).alloc (Nat.le_refl _) _).alloc (by simp) _
  have hz : ((w.alloc (.deferred (some []))).alloc (.loop (rec .ready none))).heap.size = w.heap.size + 2 := by simp
  generalize (w.alloc (.deferred (some []))).alloc (.loop (rec .ready none)) = W1 at *
  obtain ⟨l, hl⟩ : ∃ l, w.heap.size + 1 = l := ⟨_, rfl⟩
  obtain ⟨D, hD⟩ : ∃ D, w.heap.size = D := ⟨_, rfl⟩
  rw [hl] at hL hrun
  rw [hD] at hK hrun hrec
  have hlD : l ≠ D := by omega
  have hlt : w.heap.size ≤ l := by omega
  have hDt : w.heap.size ≤ D := by omega
  have hM1 : ∀ k, M0 k → k < W1.heap.size ∧ ¬ Dep k := fun k hk => ⟨by have := (hM0 k hk).1; omega, (hM0 k hk).2⟩
  have hst : ∀ (M : Nat → Prop) (A B : World), Turns (fun k => W1.heap.size ≤ k ∧ ¬ M k) A B → Turns (fun k => w.heap.size ≤ k ∧ ¬ M k) A B := fun M A B h => h.mono fun k hk => ⟨by omega, hk.2⟩
  refine ⟨l, [{ target := .collected D, args := #[] }], W1, { target := .fn (.func gf) lb, args := #[.func (.yield l) #[] #[]] }, W1, gf,
    #[.func (.yield l) #[] #[]] ++ lb, W1, hrun, ?_, ?_, ?_, fun _ => h1, ?_⟩
  · simp only [resolve, hg]; simp [go_sem]
  · intro f' hf'; simp [Target.leads] at hf'; subst hf'; exact hFg
  · simp [invoke, go_sem, eg]
  · refine (hseq l
      (fun pre M W => I pre M W ∧ W.heap[l]? = some (.loop (rec .ready none)) ∧ W.heap[D]? = some (.deferred (some [])) ∧ ¬ M l ∧ ¬ M D ∧ ∀ k, M k → k < W.heap.size)
      (fun pre M W => ∃ c, Ix c pre M W ∧ W.heap[l]? = some (.loop (rec .done (some c))) ∧ W.heap[D]? = some (.deferred (some [])) ∧ ¬ M l ∧ ¬ M D)
      M0 W1 (hb0.trans (hB.mono hb0.size)) hM1
      (fun xs M A B h ht => ⟨hI _ _ _ _ h.1 (hst _ _ _ ht), (ht.block l (Array.getElem?_eq_some_iff.1 h.2.1).1 (fun hk => by omega)).trans h.2.1, (ht.block D (Array.getElem?_eq_some_iff.1 h.2.2.1).1 (fun hk => by omega)).trans h.2.2.1, h.2.2.2.1, h.2.2.2.2.1, fun k hk => Nat.lt_of_lt_of_le (h.2.2.2.2.2 k hk) ht.size⟩)
      (fun xs M A B h ht => by
        obtain ⟨c, h1, h2, h3, h4, h5⟩ := h
        exact ⟨c, hIx _ _ _ _ _ h1 (hst _ _ _ ht), (ht.block l (Array.getElem?_eq_some_iff.1 h2).1 (fun hk => by omega)).trans h2, (ht.block D (Array.getElem?_eq_some_iff.1 h3).1 (fun hk => by omega)).trans h3, h4, h5⟩)
      ?_ ⟨hI _ _ _ _ h0 (Turns.of_below hB), hL, hK, fun hm => by have := (hM0 _ hm).1; omega, fun hm => by have := (hM0 _ hm).1; omega, fun k hk => (hM1 k hk).1⟩).mono ?_
    · rintro pre x M W ⟨hi, hwl, hwk, hml, hmd, hmlt⟩ hpre
      have hlt' : l < W.heap.size := (Array.getElem?_eq_some_iff.1 hwl).1
      have hy := run_yield (P := P) (args := encs x) hwl (by rw [hrec]; exact hps x)
      rw [hrec] at hy
      refine ⟨fn, _, assign, body, hy, roundIn_of_wpIn hfn (hassign _ x W _ fun g W' hg hW' harr => ?_)⟩
      have hl' := (hW'.block _ hlt').trans hwl
      have hk' := (hW'.block D (by omega)).trans hwk
      refine ⟨_, run_beginRound hl' (by rw [hrec]), ?_⟩
      obtain ⟨X, hX⟩ : ∃ X, W'.putObj l (.loop { rec .ready none with state := .busy }) = X := ⟨_, rfl⟩
      have xt : Turns (fun k => w.heap.size ≤ k ∧ ¬ M k) W' X := hX ▸ (Turns.refl _ _).of_put ⟨hlt, hml⟩ _
      have xl : X.heap[l]? = some (.loop { rec .ready none with state := .busy }) := hX ▸ World.putObj_heap_same (Array.getElem?_eq_some_iff.1 hl').1
      have xo : ∀ k, k ≠ l → X.heap[k]? = W'.heap[k]? := fun k hk => hX ▸ World.putObj_heap_other hk
      have xz : X.heap.size = W'.heap.size := by rw [← hX]; simp
      have xe : X.os = W'.os ∧ X.tape = W'.tape ∧ X.output = W'.output := ⟨xt.os, xt.tape, xt.output⟩
      have wz := hW'.size
      rw [hX]
      have hiX := hI _ _ _ _ (hI _ _ _ _ hi (Turns.of_below hW')) xt
      refine wpIn_mono (hbody _ pre x g M X hiX hpre ((xo g (by omega)).trans harr) (fun hm => by have := hmlt _ hm; omega) (fun k hk => by have := hmlt k hk; omega) (by omega)) ?_
      have fin : ∀ (jump : Option Code) (M' : Nat → Prop) (Y : World), Grown M M' X Y →
          (Instr.endRound l jump).run P Y = .ok (.bool jump.isNone) (Y.putObj l (.loop (rec (if jump.isNone then .ready else .done) jump))) ∧
          Turns (fun k => w.heap.size ≤ k ∧ ¬ M' k) Y (Y.putObj l (.loop (rec (if jump.isNone then .ready else .done) jump))) ∧
          (Y.putObj l (.loop (rec (if jump.isNone then .ready else .done) jump))).heap[l]? = some (.loop (rec (if jump.isNone then .ready else .done) jump)) ∧
          (Y.putObj l (.loop (rec (if jump.isNone then .ready else .done) jump))).heap[D]? = some (.deferred (some [])) ∧ ¬ M' l ∧ ¬ M' D := fun jump M' Y hG => by
        have ml : ¬ M' l := fun h => by rcases hG.new _ h with h | h; exact hml h; omega
        have md : ¬ M' D := fun h => by rcases hG.new _ h with h | h; exact hmd h; omega
        have yl := (hG.turns.block l (by omega) ml).trans xl
        have yk := (hG.turns.block D (by omega) md).trans ((xo D (fun e => hlD e.symm)).trans hk')
        have yz := hG.turns.size
        have hend := run_endRound (P := P) jump yl
        exact ⟨by rw [hrec] at hend ⊢; exact hend, (Turns.refl _ _).of_put ⟨hlt, ml⟩ _, World.putObj_heap_same (by omega), (World.putObj_heap_other (fun e => hlD e.symm)).trans yk, ml, md⟩
      rintro e a3 Y hp
      cases e with
      | normal =>
        obtain ⟨M', hG, hi3⟩ := hp
        obtain ⟨hr, ht, hl4, hk4, ml, md⟩ := fin none M' Y hG
        have yz := hG.turns.size
        refine ⟨_, _, hr, M', .inl ⟨rfl, ⟨hG.keep, fun k hk => ?_, fun k hk => ?_, ?_, ?_, ?_, ?_, fun k hk hn => ?_⟩, hI _ _ _ _ hi3 ht, hl4, hk4, ml, md, fun k hk => ?_⟩⟩
        · rcases hG.new _ hk with h | h
          · exact .inl h
          · exact .inr (by omega)
        · have := hG.lt _ hk; simpa using this
        · exact hG.turns.os.trans (xe.1.trans hW'.os)
        · exact hG.turns.tape.trans (xe.2.1.trans hW'.tape)
        · exact hG.turns.output.trans (xe.2.2.trans hW'.output)
        · simp; omega
        · by_cases e : k = l
          · subst e; exact hl4.trans hwl.symm
          · rw [World.putObj_heap_other e, hG.turns.block k (by omega) hn, xo k e, hW'.block k hk]
        · have := hG.lt _ hk; simpa using this
      | ret =>
        obtain ⟨M', hG, hi3⟩ := hp
        obtain ⟨hr, ht, hl4, hk4, ml, md⟩ := fin (some .ret) M' Y hG
        exact ⟨_, _, hr, M', .inr ⟨rfl, .ret, hIx _ _ _ _ _ hi3 ht, hl4, hk4, ml, md⟩⟩
      | exit id =>
        obtain ⟨M', hG, hi3⟩ := hp
        obtain ⟨hr, ht, hl4, hk4, ml, md⟩ := fin (some (.exit id)) M' Y hG
        exact ⟨_, _, hr, M', .inr ⟨rfl, .exit id, hIx _ _ _ _ _ hi3 ht, hl4, hk4, ml, md⟩⟩
      | goto t =>
        obtain ⟨M', hG, hi3⟩ := hp
        obtain ⟨hr, ht, hl4, hk4, ml, md⟩ := fin (some (.goto t)) M' Y hG
        exact ⟨_, _, hr, M', .inr ⟨rfl, .goto t, hIx _ _ _ _ _ hi3 ht, hl4, hk4, ml, md⟩⟩
      | panic ch => exact hp.elim
      | outgrown => exact hp.elim
    · rintro e W2 ⟨⟨v, rfl⟩, (⟨M', hi, hwl, hwk, hml, hmd, hmlt⟩ | ⟨pre, M', hp, c, hi, hwl, hwk, hml, hmd⟩)⟩
      · have hend := run_endLoop (P := P) hwl (by rw [hrec]; simp)
        rw [show (rec LoopState.ready none).pending = none by rw [hrec]] at hend
        exact ⟨none, _, hend, hdone D M' _ hDt hmd (hI _ _ _ _ hi ((Turns.refl _ _).of_put ⟨hlt, hml⟩ _)) ((World.putObj_heap_other (fun e => hlD e.symm)).trans hwk)⟩
      · have hend := run_endLoop (P := P) hwl (by rw [hrec]; simp)
        rw [show (rec LoopState.done (some c)).pending = some c by rw [hrec]] at hend
        exact ⟨some c, _, hend, hstop D c pre M' _ hDt hmd hp (hIx _ _ _ _ _ hi ((Turns.refl _ _).of_put ⟨hlt, hml⟩ _)) ((World.putObj_heap_other (fun e => hlD e.symm)).trans hwk)⟩
end Go.Proofs.Ytjocgipjmcnjfaa

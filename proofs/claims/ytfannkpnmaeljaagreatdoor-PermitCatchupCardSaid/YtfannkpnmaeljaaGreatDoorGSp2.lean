import Derived.Test.YtfannkpnmaeljaaGreatDoorGSp1
import Derived.ArgAppend
import Derived.Sort.QuietIn
import Derived.Test.YtfannkpnmaeljaaGreatDoorLawKit
import Derived.Lib.SmallJoins
import Derived.Deep.SlicePairs
set_option linter.unusedVariables false
set_option linter.unusedSimpArgs false
/- A range over an iterator that keeps memory of its own: the body owns a set of blocks, which may grow; it may be left by a jump. -/
namespace Go.Proofs.YtfannkpnmaeljaaGreatDoor
open Go.RowKit

/-- B is A but for the blocks of M and new ones. -/
structure Turns (M : Nat → Prop) (A B : World) : Prop where
  os : B.os = A.os
  tape : B.tape = A.tape
  output : B.output = A.output
  size : A.heap.size ≤ B.heap.size
  block : ∀ k, k < A.heap.size → ¬ M k → B.heap[k]? = A.heap[k]?

theorem Turns.refl (M : Nat → Prop) (A : World) : Turns M A A := ⟨rfl, rfl, rfl, Nat.le_refl _, fun _ _ _ => rfl⟩
theorem Turns.trans {M : Nat → Prop} {A B C : World} (h : Turns M A B) (k : Turns M B C) : Turns M A C :=
  ⟨k.os.trans h.os, k.tape.trans h.tape, k.output.trans h.output, Nat.le_trans h.size k.size, fun i hi hn => (k.block i (Nat.lt_of_lt_of_le hi h.size) hn).trans (h.block i hi hn)⟩
theorem Turns.mono {M N : Nat → Prop} {A B : World} (h : Turns M A B) (hmn : ∀ k, M k → N k) : Turns N A B :=
  ⟨h.os, h.tape, h.output, h.size, fun k hk hn => h.block k hk (fun hm => hn (hmn k hm))⟩
theorem Turns.of_below {M : Nat → Prop} {A B : World} (h : Below A.heap.size A B) : Turns M A B :=
  ⟨h.os, h.tape, h.output, h.size, fun k hk _ => h.block k hk⟩
theorem Turns.below {M : Nat → Prop} {A B : World} {n : Nat} (h : Turns M A B) (hn : n ≤ A.heap.size) (hm : ∀ k, M k → n ≤ k) : Below n A B :=
  ⟨h.os, h.tape, h.output, h.size, fun k hk => h.block k (by omega) (fun hM => by have := hm k hM; omega)⟩
theorem Turns.arr {M : Nat → Prop} {A B : World} (h : Turns M A B) {C : Nat} {t : TypeId} {vs : List Value} (ha : Arr A C t vs) (hM : ¬ M C) : Arr B C t vs := (h.block C ha.lt hM).trans ha
theorem Turns.of_setCell {M : Nat → Prop} {A B : World} (h : Turns M A B) {p : Addr} (hp : M p.block ∨ A.heap.size ≤ p.block) (u : Value) : Turns M A (B.setCell p u) := by
  refine ⟨h.os, h.tape, h.output, by simpa using h.size, fun k hk hn => ?_⟩
  rw [Below.heap_setCell _ _ _ _ (fun e => by subst e; rcases hp with hp | hp; exact hn hp; omega)]
  exact h.block k hk hn
theorem Turns.of_alloc {M : Nat → Prop} {A B : World} (h : Turns M A B) (o : Obj) : Turns M A (B.alloc o) := by
  refine ⟨h.os, h.tape, h.output, by have := h.size; simp; omega, fun k hk hn => ?_⟩
  rw [Below.heap_alloc _ _ _ (by have := h.size; omega)]
  exact h.block k hk hn
theorem Turns.of_put {M : Nat → Prop} {A B : World} (h : Turns M A B) {l : Nat} (hl : M l) (o : Obj) : Turns M A (B.putObj l o) := by
  refine ⟨h.os, h.tape, h.output, by simpa using h.size, fun k hk hn => ?_⟩
  exact (World.putObj_heap_other (by intro e; subst e; exact hn hl)).trans (h.block k hk hn)
theorem Turns.row {M : Nat → Prop} {A B : World} {n₀ : Nat} {e : TypeId} {size : Nat} {v : Value} {n : Nat} {xs : List Value} (h : Turns M A B) (ho : A.ownsRow n₀ e size v n xs) (hM : ∀ j, v.ownBlock = some j → ¬ M j) : B.ownsRow n₀ e size v n xs := by
  obtain ⟨h1, h2⟩ := ho
  refine ⟨h1, ?_⟩
  rcases h2 with h2 | ⟨g, cap, cur, e1, e2, e3, e4⟩
  · exact .inl h2
  · exact .inr ⟨g, cap, cur, e1, e2, (h.block g (Array.getElem?_eq_some_iff.1 e3).1 (hM g (by rw [e1]; rfl))).trans e3, e4⟩

/-- The body's blocks after a round: those before and new ones; it has turned no others. -/
structure Grown (M M' : Nat → Prop) (W W' : World) : Prop where
  keep : ∀ k, M k → M' k
  new : ∀ k, M' k → M k ∨ W.heap.size ≤ k
  lt : ∀ k, M' k → k < W'.heap.size
  turns : Turns M' W W'

def roundOut {α : Type} (I : List α → (Nat → Prop) → World → Prop) (Ix : Code → List α → (Nat → Prop) → World → Prop) (xs : List α) (M : Nat → Prop) (W : World) : Exit → Act → World → Prop
  | .normal, _, W' => ∃ M', Grown M M' W W' ∧ I xs M' W'
  | .ret, _, W' => ∃ M', Grown M M' W W' ∧ Ix .ret xs M' W'
  | .exit id, _, W' => ∃ M', Grown M M' W W' ∧ Ix (.exit id) xs M' W'
  | .goto t, _, W' => ∃ M', Grown M M' W W' ∧ Ix (.goto t) xs M' W'
  | .panic _, _, _ => False
  | .outgrown, _, _ => False

/-- An iterator's contract: it hands the elements of T to the body, in their order, until the body leaves. It reads the blocks of Dep. -/
def Hands {α : Type} (F : Fence) (n : Nat) (P : Program) (g : Nat) (lb : Array Value) (encs : α → Array Value) (Dep : Nat → Prop) (T : List α) (w : World) : Prop :=
  ∀ (l : Nat) (J Jx : List α → (Nat → Prop) → World → Prop) (M : Nat → Prop) (W : World), Below w.heap.size w W → (∀ k, M k → k < W.heap.size ∧ ¬ Dep k) →
    (∀ xs M A B, J xs M A → Turns (fun k => W.heap.size ≤ k ∧ ¬ M k) A B → J xs M B) →
    (∀ xs M A B, Jx xs M A → Turns (fun k => W.heap.size ≤ k ∧ ¬ M k) A B → Jx xs M B) →
    (∀ pre x M W1, J pre M W1 → pre ++ [x] <+: T → YieldAt F (n - 1) P l (encs x) W1 fun e W' => ∃ M',
      ((e = .returned (.bool true) ∧ Grown M M' W1 W' ∧ J (pre ++ [x]) M' W') ∨ (e = .returned (.bool false) ∧ Jx (pre ++ [x]) M' W'))) →
    J [] M W →
    CallsIn F n P g (#[.func (.yield l) #[] #[]] ++ lb) W fun e W' => (∃ v, e = .returned v) ∧ ((∃ M', J T M' W') ∨ ∃ pre M', pre <+: T ∧ Jx pre M' W')

variable {F : Fence} {n : Nat} {P : Program}

theorem wpIn_rangeFunc_hands {α : Type} {g : Operand} {ps : Array Tmp} {assign body : Code} {Q : Exit → Act → World → Prop} {a : Act} {w : World}
    (hro : F.round = none) (h1 : 1 ≤ n) {gf : Nat} {lb : Array Value} (hg : a.eval g = .func (.func gf) #[] lb) (hFg : F.fn gf) (eg : ∀ args w, (callFunc gf args).run P w = .ok (.enter gf args) w)
    {encs : α → Array Value} {Dep : Nat → Prop} {T : List α} {w0 : World} (hseq : Hands F (n - 1) P gf lb encs Dep T w0)
    (hb0 : Below w0.heap.size w0 w) (hps : ∀ x, (encs x).size = ps.size)
    (I : List α → (Nat → Prop) → World → Prop) (Ix : Code → List α → (Nat → Prop) → World → Prop)
    (hI : ∀ xs M A B, I xs M A → Turns (fun k => w.heap.size ≤ k ∧ ¬ M k) A B → I xs M B)
    (hIx : ∀ c xs M A B, Ix c xs M A → Turns (fun k => w.heap.size ≤ k ∧ ¬ M k) A B → Ix c xs M B)
    (M0 : Nat → Prop) (hM0 : ∀ k, M0 k → k < w.heap.size ∧ ¬ Dep k) (h0 : I [] M0 w) (tb : TypeId) (vx : α → List Value) (a₁ : Nat → α → Act)
    (hassign : ∀ (l : Nat) (x : α) (W : World) (K : Act → World → Prop), (∀ g W', W.heap.size ≤ g → Below W.heap.size W W' → Arr W' g tb (vx x) → K (a₁ g x) W') →
      assign.wpIn (F.inRound l) (n - 1 - 1) P (Exit.then K (fun _ _ _ => False)) { tmps := (ps.zip (encs x)).foldl (fun t (p, v) => t.setIfInBounds p v) a.tmps, defers := [] } W)
    (hbody : ∀ (l : Nat) (pre : List α) (x : α) (g : Nat) (M : Nat → Prop) (W : World), I pre M W → pre ++ [x] <+: T → Arr W g tb (vx x) → ¬ M g → (∀ k, M k → k < W.heap.size) → w.heap.size ≤ W.heap.size →
      body.wpIn (F.inRound l) (n - 1 - 1) P (roundOut I Ix (pre ++ [x]) M W) (a₁ g x) W)
    (hdone : ∀ (D : Nat) (M : Nat → Prop) (W : World), w.heap.size ≤ D → ¬ M D → I T M W → W.heap[D]? = some (.deferred (some [])) → Q .normal { a with defers := { target := .collected D, args := #[] } :: a.defers } W)
    (hstop : ∀ (D : Nat) (c : Code) (pre : List α) (M : Nat → Prop) (W : World), w.heap.size ≤ D → ¬ M D → pre <+: T → Ix c pre M W → W.heap[D]? = some (.deferred (some [])) → c.wpIn F n P Q { a with defers := { target := .collected D, args := #[] } :: a.defers } W) :
    (Code.rangeFunc g ps assign body).wpIn F n P Q a w := by
  refine wpIn_rangeFunc fun fn hfn => ?_
  rw [hro]
  have hrec : ∃ rec : LoopState → Option Code → Loop, ∀ st pe, rec st pe = { state := st, pending := pe, fn, tmps := a.tmps, params := ps, assign, body, defers := w.heap.size } := ⟨_, fun _ _ => rfl⟩
  obtain ⟨rec, hrec⟩ := hrec
  have hrun := run_enterLoop_outer (P := P) (w := w) fn a.tmps ps assign body
  rw [← hrec] at hrun
  have hL : ((w.alloc (.deferred (some []))).alloc (.loop (rec .ready none))).heap[w.heap.size + 1]? = some (.loop (rec .ready none)) := by
    have := World.alloc_heap_new (w.alloc (.deferred (some []))) (.loop (rec .ready none)); rwa [World.size_alloc] at this
  have hK : ((w.alloc (.deferred (some []))).alloc (.loop (rec .ready none))).heap[w.heap.size]? = some (.deferred (some [])) :=
    (Below.heap_alloc _ _ _ (by simp)).trans (World.alloc_heap_new w _)
  have hB : Below w.heap.size w ((w.alloc (.deferred (some []))).alloc (.loop (rec .ready none))) := ((Below.refl _ w).alloc (Nat.le_refl _) _).alloc (by simp) _
  have hz : ((w.alloc (.deferred (some []))).alloc (.loop (rec .ready none))).heap.size = w.heap.size + 2 := by simp
  generalize (w.alloc (.deferred (some []))).alloc (.loop (rec .ready none)) = W1 at *
  obtain ⟨l, hl⟩ : ∃ l, w.heap.size + 1 = l := ⟨_, rfl⟩
  obtain ⟨D, hD⟩ : ∃ D, w.heap.size = D := ⟨_, rfl⟩
  rw [hl] at hL hrun
  rw [hD] at hK hrun hrec
  have hlD : l ≠ D := by omega
  have hlt : w.heap.size ≤ l := by omega
  have hDt : w.heap.size ≤ D := by omega
  have hM1 : ∀ k, M0 k → k < W1.heap.size ∧ ¬ Dep k := fun k hk => ⟨by have := (hM0 k hk).1; omega, (hM0 k hk).2⟩
  have hst : ∀ (M : Nat → Prop) (A B : World), Turns (fun k => W1.heap.size ≤ k ∧ ¬ M k) A B → Turns (fun k => w.heap.size ≤ k ∧ ¬ M k) A B := fun M A B h => h.mono fun k hk => ⟨by omega, hk.2⟩
  refine ⟨l, [{ target := .collected D, args := #[] }], W1, { target := .fn (.func gf) lb, args := #[.func (.yield l) #[] #[]] }, W1, gf,
    #[.func (.yield l) #[] #[]] ++ lb, W1, hrun, ?_, ?_, ?_, fun _ => h1, ?_⟩
  · simp only [resolve, hg]; simp [go_sem]
  · intro f' hf'; simp [Target.leads] at hf'; subst hf'; exact hFg
  · simp [invoke, go_sem, eg]
  · refine (hseq l
      (fun pre M W => I pre M W ∧ W.heap[l]? = some (.loop (rec .ready none)) ∧ W.heap[D]? = some (.deferred (some [])) ∧ ¬ M l ∧ ¬ M D ∧ ∀ k, M k → k < W.heap.size)
      (fun pre M W => ∃ c, Ix c pre M W ∧ W.heap[l]? = some (.loop (rec .done (some c))) ∧ W.heap[D]? = some (.deferred (some [])) ∧ ¬ M l ∧ ¬ M D)
      M0 W1 (hb0.trans (hB.mono hb0.size)) hM1
      (fun xs M A B h ht => ⟨hI _ _ _ _ h.1 (hst _ _ _ ht), (ht.block l (Array.getElem?_eq_some_iff.1 h.2.1).1 (fun hk => by omega)).trans h.2.1, (ht.block D (Array.getElem?_eq_some_iff.1 h.2.2.1).1 (fun hk => by omega)).trans h.2.2.1, h.2.2.2.1, h.2.2.2.2.1, fun k hk => Nat.lt_of_lt_of_le (h.2.2.2.2.2 k hk) ht.size⟩)
      (fun xs M A B h ht => by
        obtain ⟨c, h1, h2, h3, h4, h5⟩ := h
        exact ⟨c, hIx _ _ _ _ _ h1 (hst _ _ _ ht), (ht.block l (Array.getElem?_eq_some_iff.1 h2).1 (fun hk => by omega)).trans h2, (ht.block D (Array.getElem?_eq_some_iff.1 h3).1 (fun hk => by omega)).trans h3, h4, h5⟩)
      ?_ ⟨hI _ _ _ _ h0 (Turns.of_below hB), hL, hK, fun hm => by have := (hM0 _ hm).1; omega, fun hm => by have := (hM0 _ hm).1; omega, fun k hk => (hM1 k hk).1⟩).mono ?_
    · rintro pre x M W ⟨hi, hwl, hwk, hml, hmd, hmlt⟩ hpre
      have hlt' : l < W.heap.size := (Array.getElem?_eq_some_iff.1 hwl).1
      have hy := run_yield (P := P) (args := encs x) hwl (by rw [hrec]; exact hps x)
      rw [hrec] at hy
      refine ⟨fn, _, assign, body, hy, roundIn_of_wpIn hfn (hassign _ x W _ fun g W' hg hW' harr => ?_)⟩
      have hl' := (hW'.block _ hlt').trans hwl
      have hk' := (hW'.block D (by omega)).trans hwk
      refine ⟨_, run_beginRound hl' (by rw [hrec]), ?_⟩
      obtain ⟨X, hX⟩ : ∃ X, W'.putObj l (.loop { rec .ready none with state := .busy }) = X := ⟨_, rfl⟩
      have xt : Turns (fun k => w.heap.size ≤ k ∧ ¬ M k) W' X := hX ▸ (Turns.refl _ _).of_put ⟨hlt, hml⟩ _
      have xl : X.heap[l]? = some (.loop { rec .ready none with state := .busy }) := hX ▸ World.putObj_heap_same (Array.getElem?_eq_some_iff.1 hl').1
      have xo : ∀ k, k ≠ l → X.heap[k]? = W'.heap[k]? := fun k hk => hX ▸ World.putObj_heap_other hk
      have xz : X.heap.size = W'.heap.size := by rw [← hX]; simp
      have xe : X.os = W'.os ∧ X.tape = W'.tape ∧ X.output = W'.output := ⟨xt.os, xt.tape, xt.output⟩
      have wz := hW'.size
      rw [hX]
      have hiX := hI _ _ _ _ (hI _ _ _ _ hi (Turns.of_below hW')) xt
      refine wpIn_mono (hbody _ pre x g M X hiX hpre ((xo g (by omega)).trans harr) (fun hm => by have := hmlt _ hm; omega) (fun k hk => by have := hmlt k hk; omega) (by omega)) ?_
      have fin : ∀ (jump : Option Code) (M' : Nat → Prop) (Y : World), Grown M M' X Y →
          (Instr.endRound l jump).run P Y = .ok (.bool jump.isNone) (Y.putObj l (.loop (rec (if jump.isNone then .ready else .done) jump))) ∧
          Turns (fun k => w.heap.size ≤ k ∧ ¬ M' k) Y (Y.putObj l (.loop (rec (if jump.isNone then .ready else .done) jump))) ∧
          (Y.putObj l (.loop (rec (if jump.isNone then .ready else .done) jump))).heap[l]? = some (.loop (rec (if jump.isNone then .ready else .done) jump)) ∧
          (Y.putObj l (.loop (rec (if jump.isNone then .ready else .done) jump))).heap[D]? = some (.deferred (some [])) ∧ ¬ M' l ∧ ¬ M' D := fun jump M' Y hG => by
        have ml : ¬ M' l := fun h => by rcases hG.new _ h with h | h; exact hml h; omega
        have md : ¬ M' D := fun h => by rcases hG.new _ h with h | h; exact hmd h; omega
        have yl := (hG.turns.block l (by omega) ml).trans xl
        have yk := (hG.turns.block D (by omega) md).trans ((xo D (fun e => hlD e.symm)).trans hk')
        have yz := hG.turns.size
        have hend := run_endRound (P := P) jump yl
        exact ⟨by rw [hrec] at hend ⊢; exact hend, (Turns.refl _ _).of_put ⟨hlt, ml⟩ _, World.putObj_heap_same (by omega), (World.putObj_heap_other (fun e => hlD e.symm)).trans yk, ml, md⟩
      rintro e a3 Y hp
      cases e with
      | normal =>
        obtain ⟨M', hG, hi3⟩ := hp
        obtain ⟨hr, ht, hl4, hk4, ml, md⟩ := fin none M' Y hG
        have yz := hG.turns.size
        refine ⟨_, _, hr, M', .inl ⟨rfl, ⟨hG.keep, fun k hk => ?_, fun k hk => ?_, ?_, ?_, ?_, ?_, fun k hk hn => ?_⟩, hI _ _ _ _ hi3 ht, hl4, hk4, ml, md, fun k hk => ?_⟩⟩
        · rcases hG.new _ hk with h | h
          · exact .inl h
          · exact .inr (by omega)
        · have := hG.lt _ hk; simpa using this
        · exact hG.turns.os.trans (xe.1.trans hW'.os)
        · exact hG.turns.tape.trans (xe.2.1.trans hW'.tape)
        · exact hG.turns.output.trans (xe.2.2.trans hW'.output)
        · simp; omega
        · by_cases e : k = l
          · subst e; exact hl4.trans hwl.symm
          · rw [World.putObj_heap_other e, hG.turns.block k (by omega) hn, xo k e, hW'.block k hk]
        · have := hG.lt _ hk; simpa using this
      | ret =>
        obtain ⟨M', hG, hi3⟩ := hp
        obtain ⟨hr, ht, hl4, hk4, ml, md⟩ := fin (some .ret) M' Y hG
        exact ⟨_, _, hr, M', .inr ⟨rfl, .ret, hIx _ _ _ _ _ hi3 ht, hl4, hk4, ml, md⟩⟩
      | exit id =>
        obtain ⟨M', hG, hi3⟩ := hp
        obtain ⟨hr, ht, hl4, hk4, ml, md⟩ := fin (some (.exit id)) M' Y hG
        exact ⟨_, _, hr, M', .inr ⟨rfl, .exit id, hIx _ _ _ _ _ hi3 ht, hl4, hk4, ml, md⟩⟩
      | goto t =>
        obtain ⟨M', hG, hi3⟩ := hp
        obtain ⟨hr, ht, hl4, hk4, ml, md⟩ := fin (some (.goto t)) M' Y hG
        exact ⟨_, _, hr, M', .inr ⟨rfl, .goto t, hIx _ _ _ _ _ hi3 ht, hl4, hk4, ml, md⟩⟩
      | panic ch => exact hp.elim
      | outgrown => exact hp.elim
    · rintro e W2 ⟨⟨v, rfl⟩, (⟨M', hi, hwl, hwk, hml, hmd, hmlt⟩ | ⟨pre, M', hp, c, hi, hwl, hwk, hml, hmd⟩)⟩
      · have hend := run_endLoop (P := P) hwl (by rw [hrec]; simp)
        rw [show (rec LoopState.ready none).pending = none by rw [hrec]] at hend
        exact ⟨none, _, hend, hdone D M' _ hDt hmd (hI _ _ _ _ hi ((Turns.refl _ _).of_put ⟨hlt, hml⟩ _)) ((World.putObj_heap_other (fun e => hlD e.symm)).trans hwk)⟩
      · have hend := run_endLoop (P := P) hwl (by rw [hrec]; simp)
        rw [show (rec LoopState.done (some c)).pending = some c by rw [hrec]] at hend
        exact ⟨some c, _, hend, hstop D c pre M' _ hDt hmd hp (hIx _ _ _ _ _ hi ((Turns.refl _ _).of_put ⟨hlt, hml⟩ _)) ((World.putObj_heap_other (fun e => hlD e.symm)).trans hwk)⟩
end Go.Proofs.YtfannkpnmaeljaaGreatDoor

/- Append to a row of the call's own: the block behind it is the old one or a new one. -/
namespace Go.Proofs.YtfannkpnmaeljaaGreatDoor
open Go.RowKit

theorem own_le {W : World} {base : Nat} {e : TypeId} {size : Nat} {v : Value} {k : Nat} {xs : List Value} (h : W.ownsRow base e size v k xs) : ∀ j, v.ownBlock = some j → base ≤ j := by
  intro j hj
  rcases h.2 with ⟨rfl, _⟩ | ⟨g, cap, cur, rfl, hb, _⟩
  · cases hj
  · cases hj; exact hb

theorem run_append_mine {P : Program} (w : World) (base : Nat) (t ty e : TypeId) (i : TypeInfo) (z : Value) (size bytes : Nat) (ht : P.underlying t = some (.slice e)) (hi : P.info? e = some i) (hz : i.zero = some z)
    (hsize : i.size = size) (hby : i.bytes = bytes) (hzs : z.cells.size = size) (hsz : 0 < size)
    (v : Value) (n : Nat) (xs : List Value) (hown : w.ownsRow base e size v n xs)
    (a : Addr) (m c : Nat) (news : List Value) (hl : news.length = m * size) (hnews : ∀ j u, news[j]? = some u → w.cell? (a.add j) = some u) (h1 : ∀ u ∈ news, u.oneCell' = true)
    (h63 : n + m ≤ maxLen) (hbytes : (n + m) * bytes ≤ 140737488355328) (hbase : base ≤ w.heap.size) :
    ∃ v' w', (Builtin.append_ #[t, t] ty #[v, .slice (some a) m c]).run P w = .ok v' w' ∧ w'.ownsRow base e size v' (n + m) (xs ++ news) ∧ w.grownBy w' v.ownBlock ∧
      (v' = .slice none 0 0 ↔ v = .slice none 0 0 ∧ m = 0) ∧ ∀ j, v'.ownBlock = some j → v.ownBlock = some j ∨ w.heap.size ≤ j := by
  obtain ⟨v', w', hr, r1, r2, r3⟩ := run_append_own (P := P) w base t ty e i z size bytes ht hi hz hsize hby hzs hsz v n xs hown a m c news hl hnews h1 h63 hbytes hbase
  refine ⟨v', w', hr, r1, r2, r3, ?_⟩
  rcases hown.2 with ⟨rfl, rfl⟩ | ⟨g, cap, cur, rfl, hbg, hg, hnc, hcm, hcs, htake⟩
  · have hx : xs = [] := List.eq_nil_of_length_eq_zero (by simpa using hown.1)
    subst hx
    obtain ⟨v2, w2, hr2, q1, q2, q3⟩ := run_append_own (P := P) w w.heap.size t ty e i z size bytes ht hi hz hsize hby hzs hsz (.slice none 0 0) 0 [] (World.ownsRow_nil w _ e size) a m c news hl hnews h1 h63 hbytes (Nat.le_refl _)
    rw [hr] at hr2
    simp only [Result.ok.injEq] at hr2
    obtain ⟨rfl, rfl⟩ := hr2
    exact fun j hj => .inr (own_le q1 j hj)
  · by_cases hroom : n + m ≤ cap
    · subst hsize
      have hfit : n * i.size + news.length ≤ cur.size := by rw [hl, hcs, ← Nat.add_mul]; exact Nat.mul_le_mul_right _ hroom
      have hr2 := run_append_room (P := P) w t ty e i ht hi g n cap cur hg a m c news hl hnews h1 hroom hfit
      rw [hr] at hr2
      simp only [Result.ok.injEq] at hr2
      obtain ⟨rfl, rfl⟩ := hr2
      exact fun j hj => .inl hj
    · have holds : ∀ j u, xs[j]? = some u → w.cell? ((⟨g, 0, none⟩ : Addr).add j) = some u := hown.cells (g := g) rfl
      obtain ⟨v2, w2, hr2, q1, q2⟩ := run_append_arg_grows (P := P) w t ty e i z size bytes ht hi hz hsize hby hzs hsz ⟨g, 0, none⟩ n cap xs hown.1 holds a m c news hl hnews (by omega) h63 hbytes
      rw [hr] at hr2
      simp only [Result.ok.injEq] at hr2
      obtain ⟨rfl, rfl⟩ := hr2
      exact fun j hj => .inr (own_le q1 j hj)

theorem wpListIn_append_mine {F : Fence} {n : Nat} {P : Program} (w : World) {ops : Array Oper} {rest : List Oper} {o : Oper} {a : Act} {Q : Exit → Act → World → Prop}
    (hg : o.guard = none) (s x : Operand) (t : TypeId) (hop : o.op = Op.call { callee := Callee.builtin Builtin.append, args := #[s, x], argTypes := #[t, t] })
    (base : Nat) (e : TypeId) (i : TypeInfo) (z : Value) (size bytes : Nat) (h1 : P.underlying t = some (.slice e)) (h2 : P.info? e = some i) (h3 : i.zero = some z) (h4 : i.size = size) (h5 : i.bytes = bytes) (h6 : z.cells.size = size) (h7 : 0 < size)
    (v : Value) (k : Nat) (xs : List Value) (hs : a.eval s = v) (hown : w.ownsRow base e size v k xs) (ad : Addr) (m c : Nat) (news : List Value) (hx : a.eval x = .slice (some ad) m c) (hn : news.length = m * size)
    (hc : ∀ j u, news[j]? = some u → w.cell? (ad.add j) = some u) (h1c : ∀ u ∈ news, u.oneCell' = true) (b1 : k + m ≤ maxLen) (b2 : (k + m) * bytes ≤ 140737488355328) (b3 : base ≤ w.heap.size)
    (hK : ∀ v' w', w'.ownsRow base e size v' (k + m) (xs ++ news) → w.grownBy w' v.ownBlock → (v' = .slice none 0 0 ↔ v = .slice none 0 0 ∧ m = 0) → (∀ j, v'.ownBlock = some j → v.ownBlock = some j ∨ w.heap.size ≤ j) → wpListIn F n P ops Q rest (a.put o.dst v') w') :
    wpListIn F n P ops Q (o :: rest) a w := by
  refine wpListIn_plain hg fun K hK' => ?_
  obtain ⟨v', w', hrun, r1, r2, r3, r4⟩ := run_append_mine (P := P) w base t o.type e i z size bytes h1 h2 h3 h4 h5 h6 h7 v k xs hown ad m c news hn hc h1c b1 b2 b3
  unfold Oper.wpIn
  refine ⟨?_, ?_⟩
  · simp [Oper.about, hop, resolve, Target.leads, Sem.run_pure]
  · rw [Oper.semAt_plain F _ _ (by rw [hop]; intro c hc'; cases hc')]
    simp [execOp, hop, resolve, invoke, builtin, hs, hx, hrun, Result.andThen]
    exact hK' _ _ (hK v' w' r1 r2 r3 r4)

theorem wpList_append_mine {P : Program} (w : World) {ops : Array Oper} {rest : List Oper} {o : Oper} {a : Act} {Q : Exit → Act → World → Prop}
    (hg : o.guard = none) (s x : Operand) (t : TypeId) (hop : o.op = Op.call { callee := Callee.builtin Builtin.append, args := #[s, x], argTypes := #[t, t] })
    (base : Nat) (e : TypeId) (i : TypeInfo) (z : Value) (size bytes : Nat) (h1 : P.underlying t = some (.slice e)) (h2 : P.info? e = some i) (h3 : i.zero = some z) (h4 : i.size = size) (h5 : i.bytes = bytes) (h6 : z.cells.size = size) (h7 : 0 < size)
    (v : Value) (k : Nat) (xs : List Value) (hs : a.eval s = v) (hown : w.ownsRow base e size v k xs) (ad : Addr) (m c : Nat) (news : List Value) (hx : a.eval x = .slice (some ad) m c) (hn : news.length = m * size)
    (hc : ∀ j u, news[j]? = some u → w.cell? (ad.add j) = some u) (h1c : ∀ u ∈ news, u.oneCell' = true) (b1 : k + m ≤ maxLen) (b2 : (k + m) * bytes ≤ 140737488355328) (b3 : base ≤ w.heap.size)
    (hK : ∀ v' w', w'.ownsRow base e size v' (k + m) (xs ++ news) → w.grownBy w' v.ownBlock → (v' = .slice none 0 0 ↔ v = .slice none 0 0 ∧ m = 0) → (∀ j, v'.ownBlock = some j → v.ownBlock = some j ∨ w.heap.size ≤ j) → wpList P ops Q rest (a.put o.dst v') w') :
    wpList P ops Q (o :: rest) a w := by
  refine wpList_plain hg fun K hK' => ?_
  obtain ⟨v', w', hrun, r1, r2, r3, r4⟩ := run_append_mine (P := P) w base t o.type e i z size bytes h1 h2 h3 h4 h5 h6 h7 v k xs hown ad m c news hn hc h1c b1 b2 b3
  unfold Oper.wp
  simp [execOp, hop, resolve, invoke, builtin, hs, hx, hrun, Result.andThen]
  exact hK' _ _ (hK v' w' r1 r2 r3 r4)

/-- What a store of a row that may have grown leaves: the body's blocks. -/
theorem grown_mine {M : Nat → Prop} {W w1 : World} {o : Obj} {v v' : Value} {B : Nat} {u : Value} {n₀ : Nat} {e : TypeId} {size k : Nat} {xs : List Value} (hB : M B) (hBl : ∀ j, M j → j < W.heap.size) (hv : ∀ j, v.ownBlock = some j → M j)
    (hgrow : (W.alloc o).grownBy w1 v.ownBlock) (hown : w1.ownsRow n₀ e size v' k xs) (hnew : ∀ j, v'.ownBlock = some j → v.ownBlock = some j ∨ (W.alloc o).heap.size ≤ j) :
    Grown M (fun j => M j ∨ v'.ownBlock = some j) W (w1.setCell ⟨B, 0, none⟩ u) := by
  have hz := hgrow.size
  simp at hz
  refine ⟨fun j h => .inl h, fun j h => ?_, fun j h => ?_, ⟨hgrow.os, hgrow.tape, hgrow.output, by simp; omega, fun j hj hn => ?_⟩⟩
  · rcases h with h | h
    · exact .inl h
    · rcases hnew j h with h | h
      · exact .inl (hv j h)
      · simp at h; exact .inr (by omega)
  · rcases h with h | h
    · have := hBl j h; simp; omega
    · have := (hown.lt j h).2; simpa using this
  · rw [not_or] at hn
    rw [Below.heap_setCell _ _ _ _ (by intro e; subst e; exact hn.1 hB), hgrow.block j (by simp; omega) (fun e => hn.1 (hv j e.symm))]
    exact Below.heap_alloc _ _ _ hj
end Go.Proofs.YtfannkpnmaeljaaGreatDoor

/- Valid. -/
namespace Go.Proofs.YtfannkpnmaeljaaGreatDoor
open Go.RowKit

def okAt (l : List (Int × Int)) (i : Nat) : Prop := (l.getD i (0, 0)).1 < (l.getD i (0, 0)).2 ∧ (0 < i → (l.getD (i - 1) (0, 0)).2 < (l.getD i (0, 0)).1)
theorem getD_at {l : List (Int × Int)} {i : Nat} (h : i < l.length) : l.getD i (0, 0) = l[i] := by
  rw [List.getD_eq_getElem?_getD, List.getElem?_eq_getElem h]; rfl
theorem asc_ok {l : List (Int × Int)} (h : Asc l) {i : Nat} (hi : i < l.length) : okAt l i := by
  refine ⟨?_, fun h0 => ?_⟩
  · rw [getD_at hi]; exact h.1 _ (List.getElem_mem hi)
  · rw [getD_at hi, getD_at (by omega)]
    exact List.pairwise_iff_getElem.1 h.2 (i - 1) i (by omega) hi (by omega)
theorem asc_of {l : List (Int × Int)} (h : ∀ i, i < l.length → okAt l i) : Asc l := by
  have h1 : ∀ i (hi : i < l.length), (l[i]).1 < (l[i]).2 := fun i hi => by have := (h i hi).1; rwa [getD_at hi] at this
  refine ⟨fun s hs => ?_, ?_⟩
  · obtain ⟨i, hi, rfl⟩ := List.getElem_of_mem hs
    exact h1 i hi
  · rw [List.pairwise_iff_getElem]
    intro i j hi hj hij
    induction j with
    | zero => omega
    | succ j ih =>
      have h2 := (h (j + 1) hj).2 (by omega)
      rw [getD_at (by omega), getD_at hj] at h2
      simp only [Nat.add_sub_cancel] at h2
      rcases (by omega : i < j ∨ i = j) with g | rfl
      · have := ih (by omega) g
        have := h1 j (by omega)
        omega
      · exact h2
theorem ascB_no {l : List (Int × Int)} {i : Nat} (hi : i < l.length) (h : ¬ okAt l i) : ascB l = false := by
  unfold ascB
  rw [decide_eq_false_iff_not]
  exact fun ha => h (asc_ok ha hi)
theorem ascB_yes {l : List (Int × Int)} (h : ∀ i, i < l.length → okAt l i) : ascB l = true := by
  unfold ascB
  rw [decide_eq_true_eq]
  exact asc_of h

/-- A boxed span. -/
theorem boxS (w : World) (a b : Int) : ∃ W, w.alloc (.cells #[iv a, iv b] 34) = W ∧ Below w.heap.size w W ∧ W.heap.size = w.heap.size + 1 ∧ Arr W w.heap.size 34 [iv a, iv b] :=
  ⟨_, rfl, (Below.refl _ w).alloc (Nat.le_refl _) _, by simp, Arr.new w _ [iv a, iv b]⟩

set_option maxRecDepth 100000 in
set_option maxHeartbeats 400000 in
theorem valid_any (p : Option Addr) (cap : Nat) (l : List (Int × Int)) (w : World) (hS : ShAt w w.heap.size p l) (hlen : l.length ≤ 100000) :
    Calls Tryz.prog 96 #[.slice p l.length cap] w fun e w' => e = .returned (.bool (ascB l)) ∧ Below w.heap.size w w' := by
  have he := fun a b W => isEmpty_gr a b W
  have mixed : Tryz.prog.follows .mixedOrders = true := by kernel_rfl
  obtain ⟨V, hV⟩ : ∃ V, ascB l = V := ⟨_, rfl⟩
  rw [hV]
  have HV := Lib.hid hV; clear hV
  go_enter Tryz.func96, Tryz.ntmps96
  go_wp2_with fail
  go_loopw [7] (fun s wr => ∃ k : Nat, s = .int .i64 k ∧ k ≤ l.length ∧ Below w.heap.size w wr ∧ ∀ i, i < k → okAt l i) (fun s _ => l.length - (intOf s).toNat)
  case atStart => exact ⟨0, rfl, Nat.zero_le _, Below.refl _ _, fun i hi => by omega⟩
  case round =>
    obtain ⟨k, rfl, hk, hb, hall⟩ := hrel
    have HA := Lib.hid hall; clear hall
    by_cases hlt : k < l.length
    · obtain ⟨b, o, rfl, hbl, q0, q1⟩ := (hS.below hb) k hlt
      have hsz := hb.size
      obtain ⟨x, hx⟩ : ∃ x, (l.getD k (0, 0)).1 = x := ⟨_, rfl⟩
      obtain ⟨y, hy⟩ : ∃ y, (l.getD k (0, 0)).2 = y := ⟨_, rfl⟩
      rw [hx] at q0; rw [hy] at q1
      have hidx : (k : Int) * 2 = ((k * 2 : Nat) : Int) := by omega
      go_wp2_with fail
      obtain ⟨W1, hW1, b1, z1, ka⟩ := boxS wr x y
      rw [hW1]; clear hW1
      have c0 := ka.cell (i := 0) rfl
      have c1 := ka.cell (i := 1) rfl
      have b01 := hb.trans (b1.mono hsz)
      by_cases h1 : y ≤ x
      · have hno : V = false := by
          rw [← HV.out]
          exact ascB_no hlt (fun h => by have := h.1; omega)
        subst hno
        have d1 : decide (y ≤ x) = true := by simpa using h1
        have he1 := fun W => d1 ▸ he x y W
        have g2 : wr.heap.size < W1.heap.size := by omega
        clear hS q0 q1 hx hy
        go_wp2_with fail
        have cc0 := cell_grown (by simp; omega) c0
        have cc1 := cell_grown (by simp; omega) c1
        refine wp_region_quiet_grown mixed (by kernel_rfl) ?_
        repeat (go_big_quiet_step (first | (go_at_call 77; with_reducible exact Calls.grown_of (he1 _)) | fail))
        refine wpQuiet_nil ?_
        intro _ hw'
        obtain ⟨⟨nq, osq⟩, hw''⟩ := hw'
        subst hw''
        have hq := grow_below W1 nq osq
        generalize Go.Sort.grow (W1.drewN nq) osq = W2 at hq ⊢
        go_wp2_with fail
        go_ret
        exact ⟨rfl, b01.trans (hq.mono (by omega))⟩
      · have d1 : decide (y ≤ x) = false := by simpa using h1
        have he1 := fun W => d1 ▸ he x y W
        by_cases h0 : k = 0
        · subst h0
          have g2 : wr.heap.size < W1.heap.size := by omega
          have hP : ∀ i, i < 0 + 1 → okAt l i := fun i hi => by
            obtain rfl : i = 0 := by omega
            exact ⟨by rw [hx, hy]; omega, fun h => by omega⟩
          have HP := Lib.hid hP
          clear hS q0 q1 hx hy hP
          go_wp2_with fail
          have cc0 := cell_grown (by simp; omega) c0
          have cc1 := cell_grown (by simp; omega) c1
          refine wp_region_quiet_grown mixed (by kernel_rfl) ?_
          repeat (go_big_quiet_step (first | (go_at_call 77; with_reducible exact Calls.grown_of (he1 _)) | fail))
          refine wpQuiet_nil ?_
          intro _ hw'
          obtain ⟨⟨nq, osq⟩, hw''⟩ := hw'
          subst hw''
          have hq := grow_below W1 nq osq
          generalize Go.Sort.grow (W1.drewN nq) osq = W2 at hq ⊢
          go_wp2_with fail
          exact ⟨⟨0 + 1, by go_num, by omega, b01.trans (hq.mono (by omega)), HP.out⟩, by simp [intOf]; omega⟩
        · obtain ⟨j, rfl⟩ : ∃ j, k = j + 1 := ⟨k - 1, by omega⟩
          obtain ⟨b', o', hp', hbl', r0, r1⟩ := (hS.below hb) j (by omega)
          simp only [Option.some.injEq, Addr.mk.injEq] at hp'
          obtain ⟨rfl, rfl, -⟩ := hp'
          obtain ⟨z, hz⟩ : ∃ z, (l.getD j (0, 0)).2 = z := ⟨_, rfl⟩
          rw [hz] at r1
          have r1' : W1.cell? ⟨b, o + j * 2 + 1, none⟩ = some (iv z) := (b1.cell (p := ⟨b, _, none⟩) (by simp; omega)).trans r1
          have g2 : wr.heap.size < W1.heap.size := by omega
          have g3 : b < W1.heap.size := by omega
          have e1 : ((j + 1 : Nat) : Int) - 1 = (j : Int) := by omega
          have e2 : (j : Int) * 2 = ((j * 2 : Nat) : Int) := by omega
          have w1' : IntKind.i64.wrap (((j + 1 : Nat) : Int) - 1) = (j : Int) := by rw [e1]; exact w64 (by omega) (by omega)
          have i0 : (0 : Int) < ((j + 1 : Nat) : Int) := by omega
          have i1 : (j : Int) < (l.length : Int) := by omega
          have HX := Lib.hid hx
          have HY := Lib.hid hy
          have HZ := Lib.hid hz
          clear hS q0 q1 hx hy hz r0 r1
          by_cases h2 : x ≤ z
          · have hno : V = false := by
              rw [← HV.out]
              exact ascB_no hlt (fun h => by have := h.2 (by omega); simp only [Nat.add_sub_cancel] at this; rw [HX.out, HZ.out] at this; omega)
            subst hno
            have d2 : decide (x ≤ z) = true := by simpa using h2
            go_wp2_with fail
            have cc0 := cell_grown (by simp; omega) c0
            have cc1 := cell_grown (by simp; omega) c1
            have cc2 := cell_grown (by simp; omega) r1'
            refine wp_region_quiet_grown mixed (by kernel_rfl) ?_
            repeat (go_big_quiet_step (first | (go_at_call 77; with_reducible exact Calls.grown_of (he1 _)) | fail))
            refine wpQuiet_nil ?_
            intro _ hw'
            obtain ⟨⟨nq, osq⟩, hw''⟩ := hw'
            subst hw''
            have hq := grow_below W1 nq osq
            generalize Go.Sort.grow (W1.drewN nq) osq = W2 at hq ⊢
            go_wp2_with fail
            go_ret
            exact ⟨rfl, b01.trans (hq.mono (by omega))⟩
          · have d2 : decide (x ≤ z) = false := by simpa using h2
            have hP : ∀ i, i < j + 1 + 1 → okAt l i := fun i hi => by
              rcases (by omega : i < j + 1 ∨ i = j + 1) with h | rfl
              · exact HA.out i h
              · exact ⟨by rw [HX.out, HY.out]; omega, fun h => by simp only [Nat.add_sub_cancel]; rw [HX.out, HZ.out]; omega⟩
            have HP := Lib.hid hP
            clear hP
            go_wp2_with fail
            have cc0 := cell_grown (by simp; omega) c0
            have cc1 := cell_grown (by simp; omega) c1
            have cc2 := cell_grown (by simp; omega) r1'
            refine wp_region_quiet_grown mixed (by kernel_rfl) ?_
            repeat (go_big_quiet_step (first | (go_at_call 77; with_reducible exact Calls.grown_of (he1 _)) | fail))
            refine wpQuiet_nil ?_
            intro _ hw'
            obtain ⟨⟨nq, osq⟩, hw''⟩ := hw'
            subst hw''
            have hq := grow_below W1 nq osq
            generalize Go.Sort.grow (W1.drewN nq) osq = W2 at hq ⊢
            go_wp2_with fail
            exact ⟨⟨j + 1 + 1, by go_num, by omega, b01.trans (hq.mono (by omega)), HP.out⟩, by simp [intOf]; omega⟩
    · obtain rfl : k = l.length := by omega
      have hyes : V = true := by rw [← HV.out]; exact ascB_yes HA.out
      subst hyes
      go_wp2_with fail
      go_ret
      exact ⟨rfl, hb⟩
end Go.Proofs.YtfannkpnmaeljaaGreatDoor

/- The first span that a predicate wants; whether there is one; Has. -/
namespace Go.Proofs.YtfannkpnmaeljaaGreatDoor
open Go.RowKit Go.Shelf

def IdxOf (pd : Int × Int → Bool) (l : List (Int × Int)) (r : Int) : Prop :=
  (∃ k : Nat, k < l.length ∧ r = k ∧ pd (l.getD k (0, 0)) = true ∧ ∀ i, i < k → pd (l.getD i (0, 0)) = false) ∨ (r = -1 ∧ ∀ i, i < l.length → pd (l.getD i (0, 0)) = false)
def Judges (g : Nat) (lb : Array Value) (pd : Int × Int → Bool) (w : World) : Prop :=
  ∀ (W : World) (x : Int × Int), Below w.heap.size w W → Calls Tryz.prog g (#[.agg #[iv x.1, iv x.2]] ++ lb) W fun e w' => e = .returned (.bool (pd x)) ∧ Below W.heap.size W w'

theorem idxOf_any {pd : Int × Int → Bool} {l : List (Int × Int)} {r : Int} (h : IdxOf pd l r) : decide (0 ≤ r) = l.any pd := by
  rw [Bool.eq_iff_iff, decide_eq_true_eq, List.any_eq_true]
  rcases h with ⟨k, hk, rfl, h1, -⟩ | ⟨rfl, h1⟩
  · rw [getD_at hk] at h1
    exact ⟨fun _ => ⟨_, List.getElem_mem hk, h1⟩, fun _ => by omega⟩
  · constructor
    · intro h; omega
    · rintro ⟨x, hx, h2⟩
      obtain ⟨i, hi, rfl⟩ := List.getElem_of_mem hx
      have := h1 i hi
      rw [getD_at hi, h2] at this
      cases this

set_option maxRecDepth 100000 in
set_option maxHeartbeats 1000000 in
theorem index_any (g : Nat) (lb : Array Value) (pd : Int × Int → Bool) (eg : ∀ args w, (callFunc g args).run Tryz.prog w = .ok (.enter g args) w) (p : Option Addr) (cap : Nat) (l : List (Int × Int)) (w : World) (hS : ShAt w w.heap.size p l) (hlen : l.length ≤ 100000) (hp : Judges g lb pd w) :
    Calls Tryz.prog 134 #[.slice p l.length cap, .func (.func g) #[] lb] w fun e w' => (∃ r, e = .returned (iv r) ∧ IdxOf pd l r) ∧ Below w.heap.size w w' := by
  go_enter Tryz.func134, Tryz.ntmps134
  go_wp2_with fail
  go_loopw [8] (fun s wr => ∃ k : Nat, s = .int .i64 k ∧ k ≤ l.length ∧ Below w.heap.size w wr ∧ ∀ i, i < k → pd (l.getD i (0, 0)) = false) (fun s _ => l.length - (intOf s).toNat)
  case atStart => exact ⟨0, rfl, Nat.zero_le _, Below.refl _ _, fun i hi => by omega⟩
  case round =>
    obtain ⟨k, rfl, hk, hb, hall⟩ := hrel
    have HA := Lib.hid hall; clear hall
    by_cases hlt : k < l.length
    · obtain ⟨b, o, rfl, hbl, q0, q1⟩ := (hS.below hb) k hlt
      have hcall := hp wr (l.getD k (0, 0)) hb
      obtain ⟨X, hX⟩ : ∃ X, l.getD k (0, 0) = X := ⟨_, rfl⟩
      rw [hX] at q0 q1 hcall
      have HX := Lib.hid hX; clear hX
      obtain ⟨x, y⟩ := X
      dsimp only at q0 q1 hcall
      obtain ⟨r, hr⟩ : ∃ r, pd (x, y) = r := ⟨_, rfl⟩
      rw [hr] at hcall
      have HR := Lib.hid hr
      clear hr hp hS
      have hidx : (k : Int) * 2 = ((k * 2 : Nat) : Int) := by omega
      cases r with
      | true =>
        go_wp2_with (go_at_fn g; refine hcall.mono ?_; rintro e w6 ⟨rfl, b6⟩)
        go_ret
        exact ⟨⟨_, rfl, .inl ⟨k, hlt, rfl, by rw [HX.out]; exact HR.out, HA.out⟩⟩, hb.trans (b6.mono hb.size)⟩
      | false =>
        go_wp2_with (go_at_fn g; refine hcall.mono ?_; rintro e w6 ⟨rfl, b6⟩)
        refine ⟨⟨k + 1, by go_num, by omega, hb.trans (b6.mono hb.size), fun i hi => ?_⟩, by simp [intOf]; omega⟩
        rcases (by omega : i < k ∨ i = k) with h | rfl
        · exact HA.out i h
        · rw [HX.out]; exact HR.out
    · obtain rfl : k = l.length := by omega
      go_wp2_with fail
      go_ret
      exact ⟨⟨_, rfl, .inr ⟨rfl, HA.out⟩⟩, hb⟩

end Go.Proofs.YtfannkpnmaeljaaGreatDoor

/- A region that draws its order and only reads, in a round of a range over a function. -/
namespace Go.Proofs.YtfannkpnmaeljaaGreatDoor
open Go.RowKit

def isDefer : Op → Bool
  | .defer _ => true
  | _ => false
theorem not_defer {o : Op} (h : isDefer o = false) : ∀ c, o ≠ .defer c := fun c e => by rw [e] at h; cases h

variable {F : Fence} {n : Nat} {P : Program} {ops : Array Oper} {md : Region.Mode} {C : World → Prop}

theorem wpIn_of_quietR {o : Oper} {a : Act} {K : Act → Prop} {K' : Act → World → Prop} {Q' : Exit → Act → World → Prop} {w : World} (hnd : isDefer o.op = false) (hw : C w) (h : ∀ a w', C w' → K a → K' a w')
    (ha : o.askedIn F P a C) (hh : o.quietIn F n P a C K) : o.wpIn F n P a w K' Q' := by
  obtain ⟨v, h1, h2⟩ := hh
  have h3 := h1 w hw
  unfold Oper.quietAtIn at h3
  unfold Oper.wpIn
  refine ⟨ha w hw, ?_⟩
  rw [Oper.semAt_eq _ _ _ (not_defer hnd)]
  generalize (execOp a.eval o).run P w = r at *
  cases r with
  | ok x w' =>
    cases x <;> simp only [Oper.quietUponIn] at h3 <;> simp only [Oper.uponIn]
    case value u =>
      obtain ⟨e1, e2⟩ := h3
      rw [e1, e2]
      exact h _ _ hw h2
    case skip =>
      obtain ⟨e1, e2⟩ := h3
      rw [e1, ← e2]
      exact h _ _ hw h2
    case enter f args =>
      obtain ⟨e1, hd, hc⟩ := h3
      rw [e1]
      exact ⟨hd, hc.mono fun e w'' ⟨he, hw''⟩ => by subst he; exact h _ _ hw'' h2⟩
  | halt x w' => simp only [Oper.quietUponIn] at h3

theorem wpOpIn_of_qOpInR {i : Nat} {a : Act} {K : Act → Prop} {K' : Act → World → Prop} {Q' : Exit → Act → World → Prop} {w : World} (hnd : ∀ o ∈ ops.toList, isDefer o.op = false) (hC : C w) (h : ∀ a w', C w' → K a → K' a w')
    (hh : qOpIn F n P ops C i K a) : wpOpIn F n P ops Q' i K' a w := by
  unfold qOpIn at hh
  unfold wpOpIn
  split
  · rename_i ho; simp only [ho] at hh; exact h _ _ hC hh
  · rename_i o ho
    simp only [ho] at hh
    obtain ⟨ha, hh⟩ := hh
    split
    · rename_i hw; simp only [hw, if_true] at hh; exact wpIn_of_quietR (hnd o (by have := Array.mem_of_getElem? ho; simpa using this)) hC h ha hh
    · rename_i hw; simp only [hw] at hh; exact ⟨ha w hC, h _ _ hC hh⟩

theorem wpAnyIn_of_quietR {Q : Act → Prop} {Q' : Exit → Act → World → Prop} (hnd : ∀ o ∈ ops.toList, isDefer o.op = false) (hQ : ∀ a w, C w → Q a → Q' .normal a w) : ∀ (fuel : Nat) (listed : Array Bool) (a : Act) (w : World), C w →
    wpAnyQIn F n P md ops C Q fuel listed a → wpAnyIn F n P md ops Q' fuel listed a w
  | 0, _, _, _, hw, h => ⟨h.1, hQ _ _ hw h.2⟩
  | fuel + 1, _, _, _, hw, h => ⟨fun h0 => hQ _ _ hw (h.1 h0), fun i hi => wpOpIn_of_qOpInR hnd hw (fun a' w' hw' => wpAnyIn_of_quietR hnd hQ fuel _ a' w' hw') (h.2 i hi)⟩

theorem wpIn_region_quietR {id : Nat} {Q : Exit → Act → World → Prop} {a : Act} {w : World} {l : List Oper} (hnd : l.all (fun o => !isDefer o.op) = true) (hm : P.follows .mixedOrders = true) (hB : Region.lexB .any l.toArray = true)
    (h : wpQuietIn F n P l.toArray (fun w' => ∃ n, w' = w.drewN n) (fun a' => ∀ w', (∃ n, w' = w.drewN n) → Q .normal a' w') l a) : (Code.region id l.toArray true).wpIn F n P Q a w := by
  simp only [Region.lexB, Bool.and_eq_true] at hB
  have hnd' : ∀ o ∈ l.toArray.toList, isDefer o.op = false := fun o ho => by
    have := List.all_eq_true.1 hnd o (by simpa using ho)
    simpa using this
  refine wpIn_region_any hm (wpAnyIn_of_quietR (C := fun w' => ∃ n, w' = w.drewN n) (Q := fun a' => ∀ w', (∃ n, w' = w.drewN n) → Q .normal a' w') hnd' (fun _ w' hw' h => h w' hw') _ _ _ _ ⟨1, rfl⟩ ?_)
  have := wpAnyQIn_lex (F := F) (n := n) (C := fun w' => ∃ n, w' = w.drewN n) (md := .any) hB.1 l.toArray.toList 0 (Array.replicate l.toArray.size false) a (by simp) (by simpa using hB.2) (by simpa using h)
  simpa using this
end Go.Proofs.YtfannkpnmaeljaaGreatDoor

/- Lists of spans and spans, as arguments. -/
namespace Go.Proofs.YtfannkpnmaeljaaGreatDoor
open Go.ChangeShapes Go.WideShapes Go.ChangeAt Go.WideMaps Go.WideElems Go.RowKit Go.Joins Go.Deep

theorem own : ownKnob Tryz.prog.godebug = none := by kernel_rfl
theorem laidOut : laidOutB Tryz.prog = true := by kernel_rfl

theorem pairs_list {P : Nat → Int × Int → Prop} : ∀ n, (∀ i, i < n → ∃ x, P i x) → ∃ l : List (Int × Int), l.length = n ∧ ∀ i, i < n → P i (l.getD i (0, 0))
  | 0, _ => ⟨[], rfl, fun i hi => by omega⟩
  | n + 1, h => by
    obtain ⟨l, hl, hp⟩ := pairs_list n (fun i hi => h i (by omega))
    obtain ⟨x, hx⟩ := h n (by omega)
    refine ⟨l ++ [x], by simp [hl], fun i hi => ?_⟩
    rcases (by omega : i < n ∨ i = n) with g | rfl
    · have := hp i g
      rw [List.getD_eq_getElem?_getD, List.getElem?_append_left (by omega), ← List.getD_eq_getElem?_getD]
      exact this
    · rw [List.getD_eq_getElem?_getD, List.getElem?_append_right (by omega), hl]
      simpa using hx
theorem cell_ltS {w : World} {a : Addr} {v : Value} (h : w.cell? a = some v) : a.block < w.heap.size := by
  rcases Nat.lt_or_ge a.block w.heap.size with h' | h'
  · exact h'
  · simp [World.cell?, Array.getElem?_eq_none h'] at h
theorem add_plainS (b o j : Nat) : (⟨b, o, none⟩ : Addr).add j = ⟨b, o + j, none⟩ := by unfold Addr.add; split <;> simp_all

section
variable {H : Type} {enc : TypeId × Value → H} {w : World} {base b0 : Nat} {held : Bool} {r : Reach}
set_option maxRecDepth 100000 in
theorem open_span {v : Value} {d : DataW H} {ps : List MemPlace} (hval : Value.okWide Tryz.prog w r b0 34 v) (hd : DataW.Trod enc Tryz.prog w base (fun _ => true) held 34 v d ps) :
    ∃ a b : Int, v = .agg #[iv a, iv b] ∧ (Lit.int .i64 a).wf = true ∧ (Lit.int .i64 b).wf = true := by
  obtain ⟨c0, c1, y0, y1, n, rfl, -, -, h0, h1⟩ := open_agg2 Tryz.underlying34 (by kernel_rfl) (by kernel_rfl) hval hd
  obtain ⟨a, e0, -, w0⟩ := DataW.trod_int Tryz.underlying3 h0
  obtain ⟨b, e1, -, w1⟩ := DataW.trod_int Tryz.underlying3 h1
  simp only [List.cons.injEq, and_true] at e0 e1
  subst e0 e1
  exact ⟨a, b, rfl, w0, w1⟩
set_option maxRecDepth 100000 in
theorem open_spans {v : Value} {d : DataW H} {ps : List MemPlace} (hval : Value.okWide Tryz.prog w r b0 40 v) (hd : DataW.Trod enc Tryz.prog w base (fun _ => true) held 40 v d ps) :
    ∃ (p : Option Addr) (cap : Nat) (l : List (Int × Int)), v = .slice p l.length cap ∧ l.length ≤ cap ∧ cap ≤ 9223372036854775807 ∧ ShAt w w.heap.size p l ∧ Bd l := by
  obtain ⟨a0, len, cap, rfl⟩ := okWide_slice Tryz.underlying40 hval
  obtain ⟨fuel, hf⟩ := hd
  rcases open_slice_pairs Tryz.underlying40 Tryz.underlying34 (by kernel_rfl) rfl rfl (by kernel_rfl) (by kernel_rfl) hf with ⟨e1, -⟩ | ⟨a, len', cap', m, n', V0, V1, D0, D1, P0, P1, e1, -, hl, hm, hmm, -, hc⟩
  · simp [Value.cells] at e1
    obtain ⟨rfl, rfl, rfl⟩ := e1
    exact ⟨none, 0, [], rfl, by simp, Nat.zero_le _, fun i hi => by simp at hi, Bd.nil⟩
  · simp [Value.cells] at e1
    obtain ⟨rfl, rfl, rfl⟩ := e1
    simp only [if_true] at hmm
    obtain ⟨sh, hsl, hsh⟩ := pairs_list (P := fun i x => w.cell? (a.add (i * 2)) = some (iv x.1) ∧ w.cell? (a.add (i * 2 + 1)) = some (iv x.2) ∧ (Lit.int .i64 x.1).wf = true ∧ (Lit.int .i64 x.2).wf = true) len (fun i hi => by
      obtain ⟨q0, q1, t0, t1⟩ := hc i (by omega)
      obtain ⟨x, e0, -, w0⟩ := DataW.trod_int Tryz.underlying3 t0
      obtain ⟨y, e1, -, w1⟩ := DataW.trod_int Tryz.underlying3 t1
      simp only [List.cons.injEq, and_true] at e0 e1
      exact ⟨(x, y), by rw [q0, e0], by rw [q1, e1], w0, w1⟩)
    subst hsl
    refine ⟨some a, cap, sh, rfl, hl, by unfold maxLen at hm; exact hm, fun i hi => ?_, fun s hs => ?_⟩
    · obtain ⟨q0, q1, -, -⟩ := hsh i hi
      obtain ⟨b, o, spot⟩ := a
      have hspot : spot = none := by simpa [Addr.add] using World.cell?_spot (hsh 0 (by omega)).1
      subst hspot
      rw [add_plainS] at q0 q1
      exact ⟨b, o, rfl, cell_ltS q0, q0, by rw [Nat.add_assoc]; exact q1⟩
    · obtain ⟨i, hi, rfl⟩ := List.getElem_of_mem hs
      obtain ⟨-, -, w0, w1⟩ := hsh i hi
      rw [List.getD_eq_getElem?_getD, List.getElem?_eq_getElem hi] at w0 w1
      have h0 := wf64 w0
      have h1 := wf64 w1
      simp only [Option.getD_some] at h0 h1
      omega
end
end Go.Proofs.YtfannkpnmaeljaaGreatDoor

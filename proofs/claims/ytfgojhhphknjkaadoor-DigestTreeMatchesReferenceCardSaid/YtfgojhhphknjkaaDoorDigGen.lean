/- A range over an iterator that keeps memory of its own: the body turns one block, S, and makes others. -/
import Derived.Test.YtfgojhhphknjkaaDoorDigWord
import Derived.RangeFuncNested
import Derived.RangeFuncBound
import Derived.RangeFuncCalls
import Derived.RangeFuncLeaves
import Derived.RangeFuncBox
import Derived.RangeFuncWrites
import Derived.Shelf.Abstract
import Derived.Shelf.RegionOpen
import Derived.OwnWalkIn
import Derived.TacticsInMore
import Derived.LoopNIn
import Derived.LoopIn
import Derived.Lib.BufferWrite
namespace Go.Proofs.YtfgojhhphknjkaaDoor
open Go.RowKit

/-- Whatever lay, but for block S, lies as it lay. -/
structure Besides (S : Nat) (A B : World) : Prop where
  size : A.heap.size ≤ B.heap.size
  block : ∀ k, k < A.heap.size → k ≠ S → B.heap[k]? = A.heap[k]?

theorem Besides.refl (S : Nat) (A : World) : Besides S A A := ⟨Nat.le_refl _, fun _ _ _ => rfl⟩
theorem Besides.trans {S : Nat} {A B C : World} (h : Besides S A B) (k : Besides S B C) : Besides S A C :=
  ⟨Nat.le_trans h.size k.size, fun i hi hne => (k.block i (Nat.lt_of_lt_of_le hi h.size) hne).trans (h.block i hi hne)⟩
theorem Besides.of_below {S n : Nat} {A B C : World} (h : Besides S A B) (k : Below n B C) (hn : A.heap.size ≤ n) : Besides S A C :=
  ⟨Nat.le_trans h.size k.size, fun i hi hne => (k.block i (by omega)).trans (h.block i hi hne)⟩
theorem Besides.arr {S : Nat} {A B : World} (h : Besides S A B) {C : Nat} {t : TypeId} {vs : List Value} (ha : Arr A C t vs) (hne : C ≠ S) : Arr B C t vs := (h.block C ha.lt hne).trans ha
theorem Besides.cell {S : Nat} {A B : World} (h : Besides S A B) {p : Addr} {v : Value} (hp : p.block ≠ S) (hc : A.cell? p = some v) : B.cell? p = some v := by
  have hlt : p.block < A.heap.size := by
    rcases Nat.lt_or_ge p.block A.heap.size with h' | h'
    · exact h'
    · simp [World.cell?, Array.getElem?_eq_none h'] at hc
  unfold World.cell? at hc ⊢
  rw [h.block _ hlt hp]
  exact hc

/-- An iterator's contract: it hands every element of some list for which T holds to the body, which always goes on. -/
def Gives {α : Type} (F : Fence) (n : Nat) (P : Program) (g : Nat) (lb : Array Value) (encs : α → Array Value) (R : α → Prop) (S : Nat) (T : List α → Prop) (w : World) : Prop :=
  ∀ (l : Nat) (J : List α → World → Prop) (W : World), Below w.heap.size w W → (∀ xs A B, J xs A → Below W.heap.size A B → J xs B) →
    (∀ pre x W1, J pre W1 → R x → YieldAt F (n - 1) P l (encs x) W1 fun e W' => e = .returned (.bool true) ∧ J (pre ++ [x]) W' ∧ Besides S W1 W') →
    J [] W →
    CallsIn F n P g (#[.func (.yield l) #[] #[]] ++ lb) W fun e W' => (∃ v, e = .returned v) ∧ ∃ xs, T xs ∧ J xs W'

theorem below_put {n l : Nat} {W : World} (o : Obj) (hl : n ≤ l) : Below n W (W.putObj l o) :=
  ⟨rfl, rfl, rfl, by simp, fun k hk => World.putObj_heap_other (by omega)⟩

variable {F : Fence} {n : Nat} {P : Program}

theorem wpIn_rangeFunc_gives {α : Type} {g : Operand} {ps : Array Tmp} {assign body : Code} {Q : Exit → Act → World → Prop} {a : Act} {w : World}
    (hro : F.round = none) (h1 : 1 ≤ n) {gf : Nat} {lb : Array Value} (hg : a.eval g = .func (.func gf) #[] lb) (hFg : F.fn gf) (eg : ∀ args w, (callFunc gf args).run P w = .ok (.enter gf args) w)
    {encs : α → Array Value} {R : α → Prop} {S : Nat} {T : List α → Prop} {w0 : World} (hseq : Gives F (n - 1) P gf lb encs R S T w0) (hS : S < w.heap.size)
    (hb0 : Below w0.heap.size w0 w) (hps : ∀ x, (encs x).size = ps.size)
    (I : List α → World → Prop) (hI : ∀ xs A B, I xs A → Below w.heap.size A B → I xs B) (h0 : I [] w) (tb : TypeId) (vx : α → List Value) (a₁ : Nat → α → Act)
    (hassign : ∀ (l : Nat) (x : α) (W : World) (K : Act → World → Prop), R x → (∀ g W', W.heap.size ≤ g → Below W.heap.size W W' → Arr W' g tb (vx x) → K (a₁ g x) W') →
      assign.wpIn (F.inRound l) (n - 1 - 1) P (Exit.then K (fun _ _ _ => False)) { tmps := (ps.zip (encs x)).foldl (fun t (p, v) => t.setIfInBounds p v) a.tmps, defers := [] } W)
    (hbody : ∀ (l : Nat) (pre : List α) (x : α) (g : Nat) (W : World), I pre W → R x → Arr W g tb (vx x) → body.wpIn (F.inRound l) (n - 1 - 1) P (fun e _ W' => e = .normal ∧ Besides S W W' ∧ I (pre ++ [x]) W') (a₁ g x) W)
    (hdone : ∀ (D : Nat) (xs : List α) (W : World), w.heap.size ≤ D → T xs → I xs W → W.heap[D]? = some (.deferred (some [])) → Q .normal { a with defers := { target := .collected D, args := #[] } :: a.defers } W) :
    (Code.rangeFunc g ps assign body).wpIn F n P Q a w := by
  refine wpIn_rangeFunc fun fn hfn => ?_
  rw [hro]
  have hrec : ∃ rec : LoopState → Option Code → Loop, ∀ st pe, rec st pe = { state := st, pending := pe, fn, tmps := a.tmps, params := ps, assign, body, defers := w.heap.size } := ⟨_, fun _ _ => rfl⟩
  obtain ⟨rec, hrec⟩ := hrec
  have hrun := run_enterLoop_outer (P := P) (w := w) fn a.tmps ps assign body
  rw [← hrec] at hrun
  have hL : ((w.alloc (.deferred (some []))).alloc (.loop (rec .ready none))).heap[w.heap.size + 1]? = some (.loop (rec .ready none)) := by
    have := World.alloc_heap_new (w.alloc (.deferred (some []))) (.loop (rec .ready none)); rwa [World.size_alloc] at this
  have hK : ((w.alloc (.deferred (some []))).alloc (.loop (rec .ready none))).heap[w.heap.size]? = some (.deferred (some [])) :=
    (Below.heap_alloc _ _ _ (by simp)).trans (World.alloc_heap_new w _)
  have hB : Below w.heap.size w ((w.alloc (.deferred (some []))).alloc (.loop (rec .ready none))) := ((Below.refl _ w).alloc (Nat.le_refl _) _).alloc (by simp) _
  have hz : ((w.alloc (.deferred (some []))).alloc (.loop (rec .ready none))).heap.size = w.heap.size + 2 := by simp
  generalize (w.alloc (.deferred (some []))).alloc (.loop (rec .ready none)) = W1 at *
  refine ⟨w.heap.size + 1, [{ target := .collected w.heap.size, args := #[] }], W1, { target := .fn (.func gf) lb, args := #[.func (.yield (w.heap.size + 1)) #[] #[]] }, W1, gf,
    #[.func (.yield (w.heap.size + 1)) #[] #[]] ++ lb, W1, hrun, ?_, ?_, ?_, fun _ => h1, ?_⟩
  · simp only [resolve, hg]; simp [go_sem]
  · intro f' hf'; simp [Target.leads] at hf'; subst hf'; exact hFg
  · simp [invoke, go_sem, eg]
  · refine (hseq (w.heap.size + 1) (fun pre W => I pre W ∧ W.heap[w.heap.size + 1]? = some (.loop (rec .ready none)) ∧ W.heap[w.heap.size]? = some (.deferred (some []))) W1 (hb0.trans (hB.mono hb0.size))
      (fun xs A B h hb => ⟨hI _ _ _ h.1 (hb.mono (by omega)), (hb.block _ (by omega)).trans h.2.1, (hb.block _ (by omega)).trans h.2.2⟩) ?_ ⟨hI _ _ _ h0 hB, hL, hK⟩).mono ?_
    · rintro pre x W ⟨hi, hl, hk⟩ hR
      have hlt : w.heap.size + 1 < W.heap.size := (Array.getElem?_eq_some_iff.1 hl).1
      have hy := run_yield (P := P) (args := encs x) hl (by rw [hrec]; exact hps x)
      rw [hrec] at hy
      refine ⟨fn, _, assign, body, hy, roundIn_of_wpIn hfn (hassign _ x W _ hR fun g W' hg hW' harr => ?_)⟩
      have hl' := (hW'.block _ hlt).trans hl
      have hk' := (hW'.block w.heap.size (by omega)).trans hk
      refine ⟨_, run_beginRound hl' (by rw [hrec]), ?_⟩
      obtain ⟨X, hX⟩ : ∃ X, W'.putObj (w.heap.size + 1) (.loop { rec .ready none with state := .busy }) = X := ⟨_, rfl⟩
      have xb : Below w.heap.size W' X := hX ▸ below_put _ (by omega)
      have xl : X.heap[w.heap.size + 1]? = some (.loop { rec .ready none with state := .busy }) := hX ▸ World.putObj_heap_same (Array.getElem?_eq_some_iff.1 hl').1
      have xo : ∀ k, k ≠ w.heap.size + 1 → X.heap[k]? = W'.heap[k]? := fun k hk => hX ▸ World.putObj_heap_other hk
      have xz : X.heap.size = W'.heap.size := by rw [← hX]; simp
      have wz := hW'.size
      rw [hX]
      refine wpIn_mono (hbody _ pre x g X (hI _ _ _ (hI _ _ _ hi (hW'.mono (by omega))) xb) hR ((xo g (by omega)).trans harr)) ?_
      rintro e a3 Y ⟨rfl, hbs, hi3⟩
      have yl := (hbs.block _ (by omega) (by omega : w.heap.size + 1 ≠ S)).trans xl
      have yk := (hbs.block w.heap.size (by omega) (by omega)).trans ((xo _ (by omega)).trans hk')
      have hend := run_endRound (P := P) none yl
      refine ⟨_, _, hend, rfl, ⟨hI _ _ _ hi3 (below_put _ (by omega)), ?_, ?_⟩, ?_, ?_⟩
      · rw [World.putObj_heap_same (Array.getElem?_eq_some_iff.1 yl).1, hrec]; rfl
      · exact (World.putObj_heap_other (by omega)).trans yk
      · have := hbs.size; simp; omega
      · intro k hk' hne
        by_cases e : k = w.heap.size + 1
        · subst e
          rw [World.putObj_heap_same (Array.getElem?_eq_some_iff.1 yl).1, hl, hrec]; rfl
        · rw [World.putObj_heap_other e, hbs.block k (by omega) hne, xo k e, hW'.block k hk']
    · rintro e W2 ⟨⟨v, rfl⟩, xs, hT, hi, hl, hk⟩
      have hend := run_endLoop (P := P) hl (by rw [hrec]; simp)
      rw [show (rec LoopState.ready none).pending = none by rw [hrec]] at hend
      exact ⟨none, _, hend, hdone _ xs _ (Nat.le_refl _) hT (hI _ _ _ hi (below_put (l := w.heap.size + 1) _ (by omega))) ((World.putObj_heap_other (by omega)).trans hk)⟩
end Go.Proofs.YtfgojhhphknjkaaDoor

/- WireSequence returns true for every list of integers and of texts. Conditions: those of the given row and card, no others. -/
import Derived.Test.YtemdfbnfpdfpeaaDoorWireSeq
import Derived.Test.YtemdfbnfpdfpeaaDoorWireLaid
import Derived.Test.YtemdfbnfpdfpeaaDoorLawKit
import Derived.Test.YtemdfbnfpdfpeaaDoorTie
import Derived.Test.YtemdfbnfpdfpeaaDoorCards
import Derived.ProofKit
namespace Go.Proofs.YtemdfbnfpdfpeaaDoor
open Go.ChangeShapes Go.WideShapes Go.ChangeAt Go.WideMaps Go.WideElems Go.RowKit Go.ChangeMaps

namespace SQ
theorem spec : LawSpec 2 Rows.wireSequenceSpec := ⟨rfl, fun H ds h => by
  match ds, h with
  | [_, _], _ => exact ⟨rfl, rfl, rfl⟩⟩

set_option maxRecDepth 100000 in
theorem lifted (os : Os) (started : os.Started) (H : Type) (enc : TypeId × Value → H) :
    ReturnsInHanded {} Tryd.checked os 6 .any (fun w args => (Rows.wireSequenceSpec.pre enc Tryd.prog Tryd.f6 [] false w args ∧ laidMetH Tryd.prog laidSteps w) ∧ sizedMet enc Tryd.prog Tryd.f6 (OpenSpec.ofChange Rows.wireSequenceSpec) false w args)
      (Rows.wireSequenceSpec.post enc Tryd.prog Tryd.f6 false true false false) := by
  refine law_lifted (C := Tryd.checked) own laidOut os started H enc (by kernel_rfl) Tryd.func6 Tryd.underlying4 rfl spec (by kernel_rfl)
    (ChangeSpec.witness_shaped (enc := enc) (C := Tryd.checked) (os := os) (X := fun w _ => laidMetH Tryd.prog laidSteps w) false (World.doorLaid Tryd.prog 400 os) #[.slice none 0 0, .slice none 0 0] 8 rfl (World.shaped_of_RefB (by kernel_rfl) (by kernel_rfl)) (by kernel_rfl) (by kernel_rfl) (by kernel_rfl) (door_met os _)) ?_
  intro W base args ds before hval0 hA0 hlt hwt0 hL
  have hval : ∀ (j : Nat) t v, Tryd.f6.params[j]? = some t → args[j]? = some v → Value.okWide Tryd.prog W .any base t v := hval0
  have hA : DataW.TrodAll enc Tryd.prog W 0 (fun _ => true) true Tryd.f6.params.toList args.toList ds before := hA0
  have hwt : (DataW.weightsEach Tryd.prog (Tryd.f6.params.toList ++ Rows.wireSequenceSpec.plain.varTypes Tryd.prog) (ds ++ [])).all (· ≤ reachBytes) = true := hwt0
  obtain ⟨hT, h0⟩ := tab_of_laid hL
  clear hval0 hA0 hwt0
  rw [Tryd.params6] at hA hval hwt
  obtain ⟨v0, v1, d0, d1, p0, p1, rfl, rfl, rfl, t0, t1⟩ := trodAll_two hA
  obtain ⟨p_l, len_l, cap_l, l, rfl, ll_l, lc_l, lm_l, at_l, wf_l, hd_l⟩ := open_ints_at Tryd.underlying24 Tryd.underlying3 (by kernel_rfl) (hval 0 24 v0 rfl rfl) t0
  obtain ⟨p_t, len_t, cap_t, t, rfl, ll_t, lc_t, lm_t, at_t, wf_t, hd_t⟩ := open_strs_at Tryd.underlying40 Tryd.underlying9 (by kernel_rfl) (hval 1 40 v1 rfl rfl) t1
  exact sequence_any ⟨l, t⟩ p_l p_t len_l len_t cap_l cap_t W (by unfold maxLen at lm_l; omega) (by unfold maxLen at lm_t; omega) at_l at_t (getD64 wf_l) (getDStr wf_t) hT h0

theorem row_holds : Rows.WireSequenceSaid :=
  OpenClaim.holds_of_wide 6 Tryd.f6 rfl rfl rfl rfl rfl rfl rfl ⟨rfl, rfl, rfl, rfl, rfl⟩ rfl rfl rfl rfl rfl (by kernel_rfl) Tryd.func6 (by kernel_rfl)
    (of_decide_eq_true (by kernel_rfl)) (by unfold Func.isWrapper; first | (rw [if_pos (by decide +kernel)]; kernel_rfl) | (rw [if_neg (by decide +kernel)]; exact ⟨rfl, rfl⟩))
    (fun os started H enc _ => lifted os started H enc)

theorem card_holds : Rows.WireSequenceCardSaid :=
  Claim7.holds_tied_plain_at .later [] [.data] true _ false
    row_holds (fun _ h => by cases h) (by kernel_rfl) (fun _ h => by cases h) wireSequence_row_tie rfl ⟨rfl, rfl⟩ (by kernel_rfl) rfl
    (fun f fn hf hfn => by
      obtain rfl : f = 6 := Option.some.inj ((show Tryd.prog.funcNamed "onair/onairlaw01.WireSequence" = some 6 by kernel_rfl).symm.trans hf) |>.symm
      obtain rfl : fn = Tryd.f6 := (Option.some.inj (Tryd.func6.symm.trans hfn)).symm
      exact ⟨by kernel_rfl, fun j t ht => standIns_of (by kernel_rfl) ht⟩)
    (by kernel_rfl)

end SQ
end Go.Proofs.YtemdfbnfpdfpeaaDoor

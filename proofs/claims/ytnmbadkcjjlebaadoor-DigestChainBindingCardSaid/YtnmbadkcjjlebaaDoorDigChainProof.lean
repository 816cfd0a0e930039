/- DigestChainBinding returns true for every two lists of strings. Conditions: those of the given row and card, no others. -/
import Derived.Test.YtnmbadkcjjlebaaDoorDigChainLaw
import Derived.Test.YtnmbadkcjjlebaaDoorDigLaid
import Derived.Test.YtnmbadkcjjlebaaDoorLawKit
import Derived.Test.YtnmbadkcjjlebaaDoorTie
import Derived.Test.YtnmbadkcjjlebaaDoorCards
import Derived.ProofKit
namespace Go.Proofs.YtnmbadkcjjlebaaDoor
open Go.ChangeShapes Go.WideShapes Go.ChangeAt Go.WideMaps Go.WideElems Go.RowKit Go.ChangeMaps

namespace CB
theorem spec : LawSpec 2 Rows.digestChainBindingSpec := ⟨rfl, fun H ds h => by
  match ds, h with
  | [_, _], _ => exact ⟨rfl, rfl, rfl⟩⟩

set_option maxRecDepth 100000 in
theorem lifted (os : Os) (started : os.Started) (H : Type) (enc : TypeId × Value → H) :
    ReturnsInHanded {} Tryd.checked os 7 .any (fun w args => (Rows.digestChainBindingSpec.pre enc Tryd.prog Tryd.f7 [] false w args ∧ laidMetH Tryd.prog laidKeys w) ∧ sizedMet enc Tryd.prog Tryd.f7 (OpenSpec.ofChange Rows.digestChainBindingSpec) false w args)
      (Rows.digestChainBindingSpec.post enc Tryd.prog Tryd.f7 false true false false) := by
  refine law_lifted (C := Tryd.checked) own laidOut os started H enc (by kernel_rfl) Tryd.func7 Tryd.underlying4 rfl spec (by kernel_rfl)
    (ChangeSpec.witness_shaped (enc := enc) (C := Tryd.checked) (os := os) (X := fun w _ => laidMetH Tryd.prog laidKeys w) false (World.doorLaid Tryd.prog 400 os) #[.slice none 0 0, .slice none 0 0] 8 rfl (World.shaped_of_RefB (by kernel_rfl) (by kernel_rfl)) (by kernel_rfl) (by kernel_rfl) (by kernel_rfl) (door_met os _)) ?_
  intro W base args ds before hval0 hA0 hlt hwt0 hL
  have hval : ∀ (j : Nat) t v, Tryd.f7.params[j]? = some t → args[j]? = some v → Value.okWide Tryd.prog W .any base t v := hval0
  have hA : DataW.TrodAll enc Tryd.prog W 0 (fun _ => true) true Tryd.f7.params.toList args.toList ds before := hA0
  have hwt : (DataW.weightsEach Tryd.prog (Tryd.f7.params.toList ++ Rows.digestChainBindingSpec.plain.varTypes Tryd.prog) (ds ++ [])).all (· ≤ reachBytes) = true := hwt0
  obtain hK := tab_of_laid hL
  clear hval0 hA0 hwt0
  rw [Tryd.params7] at hA hval hwt
  obtain ⟨v0, v1, d0, d1, p0, p1, rfl, rfl, rfl, t0, t1⟩ := trodAll_two hA
  obtain ⟨p_a, len_a, cap_a, a, rfl, ll_a, lc_a, lm_a, at_a, wf_a, hd_a⟩ := open_strs_at Tryd.underlying22 Tryd.underlying9 (by kernel_rfl) (hval 0 22 v0 rfl rfl) t0
  obtain ⟨p_b, len_b, cap_b, b, rfl, ll_b, lc_b, lm_b, at_b, wf_b, hd_b⟩ := open_strs_at Tryd.underlying22 Tryd.underlying9 (by kernel_rfl) (hval 1 22 v1 rfl rfl) t1
  exact by
    have hla : (a.take len_a).length = len_a := by rw [List.length_take]; omega
    have hlb : (b.take len_b).length = len_b := by rw [List.length_take]; omega
    have h := chain_law (a.take len_a) (b.take len_b) p_a p_b cap_a cap_b W (by unfold maxLen at lm_a; omega) (by unfold maxLen at lm_b; omega) (strsAt_slice ll_a at_a) (strsAt_slice ll_b at_b) (takeSmall wf_a len_a) (takeSmall wf_b len_b) hK
    rw [hla, hlb] at h
    exact h

theorem row_holds : Rows.DigestChainBindingSaid :=
  OpenClaim.holds_of_wide 7 Tryd.f7 rfl rfl rfl rfl rfl rfl rfl ⟨rfl, rfl, rfl, rfl, rfl⟩ rfl rfl rfl rfl rfl (by kernel_rfl) Tryd.func7 (by kernel_rfl)
    (of_decide_eq_true (by kernel_rfl)) (by unfold Func.isWrapper; first | (rw [if_pos (by decide +kernel)]; kernel_rfl) | (rw [if_neg (by decide +kernel)]; exact ⟨rfl, rfl⟩))
    (fun os started H enc _ => lifted os started H enc)

theorem card_holds : Rows.DigestChainBindingCardSaid :=
  Claim7.holds_tied_plain_at .later [] [.data] true _ false
    row_holds (fun _ h => by cases h) (by kernel_rfl) (fun _ h => by cases h) digestChainBinding_row_tie rfl ⟨rfl, rfl⟩ (by kernel_rfl) rfl
    (fun f fn hf hfn => by
      obtain rfl : f = 7 := Option.some.inj ((show Tryd.prog.funcNamed "onair/onairlaw02.DigestChainBinding" = some 7 by kernel_rfl).symm.trans hf) |>.symm
      obtain rfl : fn = Tryd.f7 := (Option.some.inj (Tryd.func7.symm.trans hfn)).symm
      exact ⟨by kernel_rfl, fun j t ht => standIns_of (by kernel_rfl) ht⟩)
    (by kernel_rfl)

end CB
end Go.Proofs.YtnmbadkcjjlebaaDoor

/- DigestExtensionBinding returns true for every two roots of beginnings, every two proofs, every root and numbers. Conditions: those of the given row and card, no others. -/
import Derived.Test.YtjddmhophamijaaDoorDigSideW
import Derived.Test.YtjddmhophamijaaDoorDigLaid
import Derived.Test.YtjddmhophamijaaDoorLawKit
import Derived.Test.YtjddmhophamijaaDoorTie
import Derived.Test.YtjddmhophamijaaDoorCards
import Derived.ProofKit
namespace Go.Proofs.YtjddmhophamijaaDoor
open Go.ChangeShapes Go.WideShapes Go.ChangeAt Go.WideMaps Go.WideElems Go.RowKit Go.ChangeMaps

namespace EB
theorem spec : LawSpec 7 Rows.digestExtensionBindingSpec := ⟨rfl, fun H ds h => by
  match ds, h with
  | [_, _, _, _, _, _, _], _ => exact ⟨rfl, rfl, rfl⟩⟩

set_option maxRecDepth 100000 in
theorem lifted (os : Os) (started : os.Started) (H : Type) (enc : TypeId × Value → H) :
    ReturnsInHanded {} Tryd.checked os 8 .any (fun w args => (Rows.digestExtensionBindingSpec.pre enc Tryd.prog Tryd.f8 [] false w args ∧ laidMetH Tryd.prog laidKeys w) ∧ sizedMet enc Tryd.prog Tryd.f8 (OpenSpec.ofChange Rows.digestExtensionBindingSpec) false w args)
      (Rows.digestExtensionBindingSpec.post enc Tryd.prog Tryd.f8 false true false false) := by
  refine law_lifted (C := Tryd.checked) own laidOut os started H enc (by kernel_rfl) Tryd.func8 Tryd.underlying4 rfl spec (by kernel_rfl)
    (ChangeSpec.witness_shaped (enc := enc) (C := Tryd.checked) (os := os) (X := fun w _ => laidMetH Tryd.prog laidKeys w) false (World.doorLaid Tryd.prog 400 os) #[.string ⟨#[]⟩, .slice none 0 0, .string ⟨#[]⟩, .slice none 0 0, .int .i64 0, .string ⟨#[]⟩, .int .i64 0] 8 rfl (World.shaped_of_RefB (by kernel_rfl) (by kernel_rfl)) (by kernel_rfl) (by kernel_rfl) (by kernel_rfl) (door_met os _)) ?_
  intro W base args ds before hval0 hA0 hlt hwt0 hL
  have hval : ∀ (j : Nat) t v, Tryd.f8.params[j]? = some t → args[j]? = some v → Value.okWide Tryd.prog W .any base t v := hval0
  have hA : DataW.TrodAll enc Tryd.prog W 0 (fun _ => true) true Tryd.f8.params.toList args.toList ds before := hA0
  have hwt : (DataW.weightsEach Tryd.prog (Tryd.f8.params.toList ++ Rows.digestExtensionBindingSpec.plain.varTypes Tryd.prog) (ds ++ [])).all (· ≤ reachBytes) = true := hwt0
  obtain hK := tab_of_laid hL
  clear hval0 hA0 hwt0
  rw [Tryd.params8] at hA hval hwt
  obtain ⟨l, hl, rfl⟩ : ∃ l : List Value, args.toList = l ∧ args = l.toArray := ⟨args.toList, rfl, by simp⟩
  rw [hl] at hA
  obtain ⟨v0, l0, d0, e0, p0, q0, rfl, rfl, rfl, t0, hA⟩ := trodAll_cons hA
  obtain ⟨v1, l1, d1, e1, p1, q1, rfl, rfl, rfl, t1, hA⟩ := trodAll_cons hA
  obtain ⟨v2, l2, d2, e2, p2, q2, rfl, rfl, rfl, t2, hA⟩ := trodAll_cons hA
  obtain ⟨v3, l3, d3, e3, p3, q3, rfl, rfl, rfl, t3, hA⟩ := trodAll_cons hA
  obtain ⟨v4, l4, d4, e4, p4, q4, rfl, rfl, rfl, t4, hA⟩ := trodAll_cons hA
  obtain ⟨v5, l5, d5, e5, p5, q5, rfl, rfl, rfl, t5, hA⟩ := trodAll_cons hA
  obtain ⟨v6, l6, d6, e6, p6, q6, rfl, rfl, rfl, t6, hA⟩ := trodAll_cons hA
  obtain ⟨rfl, rfl, rfl⟩ := trodAll_nil hA
  clear hl
  obtain ⟨a, rfl, rfl, rfl, ya⟩ := open_string Tryd.underlying9 (hval 0 9 v0 rfl rfl) t0
  obtain ⟨p_p, len_p, cap_p, p, rfl, ll_p, lc_p, lm_p, at_p, wf_p, hd_p⟩ := open_strs_at Tryd.underlying22 Tryd.underlying9 (by kernel_rfl) (hval 1 22 v1 rfl rfl) t1
  obtain ⟨b, rfl, rfl, rfl, yb⟩ := open_string Tryd.underlying9 (hval 2 9 v2 rfl rfl) t2
  obtain ⟨p_q, len_q, cap_q, q, rfl, ll_q, lc_q, lm_q, at_q, wf_q, hd_q⟩ := open_strs_at Tryd.underlying22 Tryd.underlying9 (by kernel_rfl) (hval 3 22 v3 rfl rfl) t3
  obtain ⟨m, rfl, rfl, rfl, wm⟩ := open_int Tryd.underlying3 (hval 4 3 v4 rfl rfl) t4
  have hm := wf64 wm
  obtain ⟨root, rfl, rfl, rfl, yroot⟩ := open_string Tryd.underlying9 (hval 5 9 v5 rfl rfl) t5
  obtain ⟨n, rfl, rfl, rfl, wn⟩ := open_int Tryd.underlying3 (hval 6 3 v6 rfl rfl) t6
  have hn := wf64 wn
  exact by
    have hlp : (p.take len_p).length = len_p := by rw [List.length_take]; omega
    have hlq : (q.take len_q).length = len_q := by rw [List.length_take]; omega
    have h := extBinding_any a b root m n (p.take len_p) (q.take len_q) p_p p_q cap_p cap_q W hn.1 hn.2 hm.1 hm.2 (by unfold maxLen at ya; omega) (by unfold maxLen at yb; omega) (by unfold maxLen at yroot; omega) (by unfold maxLen at lm_p; omega) (by unfold maxLen at lm_q; omega) (takeSmall wf_p len_p) (takeSmall wf_q len_q) (strsAt_slice ll_p at_p) (strsAt_slice ll_q at_q) hK
    rw [hlp, hlq] at h
    exact h

theorem row_holds : Rows.DigestExtensionBindingSaid :=
  OpenClaim.holds_of_wide 8 Tryd.f8 rfl rfl rfl rfl rfl rfl rfl ⟨rfl, rfl, rfl, rfl, rfl⟩ rfl rfl rfl rfl rfl (by kernel_rfl) Tryd.func8 (by kernel_rfl)
    (of_decide_eq_true (by kernel_rfl)) (by unfold Func.isWrapper; first | (rw [if_pos (by decide +kernel)]; kernel_rfl) | (rw [if_neg (by decide +kernel)]; exact ⟨rfl, rfl⟩))
    (fun os started H enc _ => lifted os started H enc)

theorem card_holds : Rows.DigestExtensionBindingCardSaid :=
  Claim7.holds_tied_plain_at .later [] [.data] true _ false
    row_holds (fun _ h => by cases h) (by kernel_rfl) (fun _ h => by cases h) digestExtensionBinding_row_tie rfl ⟨rfl, rfl⟩ (by kernel_rfl) rfl
    (fun f fn hf hfn => by
      obtain rfl : f = 8 := Option.some.inj ((show Tryd.prog.funcNamed "onair/onairlaw02.DigestExtensionBinding" = some 8 by kernel_rfl).symm.trans hf) |>.symm
      obtain rfl : fn = Tryd.f8 := (Option.some.inj (Tryd.func8.symm.trans hfn)).symm
      exact ⟨by kernel_rfl, fun j t ht => standIns_of (by kernel_rfl) ht⟩)
    (by kernel_rfl)

end EB
end Go.Proofs.YtjddmhophamijaaDoor

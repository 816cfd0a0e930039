/- DigestBinding returns true for every root, number, index, every two entries and every two proofs. Conditions: those of the given row and card, no others. -/
import Derived.Test.YtjddmhophamijaaDoorDigLaw
import Derived.Test.YtjddmhophamijaaDoorDigLaid
import Derived.Test.YtjddmhophamijaaDoorLawKit
import Derived.Test.YtjddmhophamijaaDoorTie
import Derived.Test.YtjddmhophamijaaDoorCards
import Derived.ProofKit
namespace Go.Proofs.YtjddmhophamijaaDoor
open Go.ChangeShapes Go.WideShapes Go.ChangeAt Go.WideMaps Go.WideElems Go.RowKit Go.ChangeMaps

namespace BD
theorem spec : LawSpec 7 Rows.digestBindingSpec := ⟨rfl, fun H ds h => by
  match ds, h with
  | [_, _, _, _, _, _, _], _ => exact ⟨rfl, rfl, rfl⟩⟩

set_option maxRecDepth 100000 in
theorem lifted (os : Os) (started : os.Started) (H : Type) (enc : TypeId × Value → H) :
    ReturnsInHanded {} Tryd.checked os 6 .any (fun w args => (Rows.digestBindingSpec.pre enc Tryd.prog Tryd.f6 [] false w args ∧ laidMetH Tryd.prog laidKeys w) ∧ sizedMet enc Tryd.prog Tryd.f6 (OpenSpec.ofChange Rows.digestBindingSpec) false w args)
      (Rows.digestBindingSpec.post enc Tryd.prog Tryd.f6 false true false false) := by
  refine law_lifted (C := Tryd.checked) own laidOut os started H enc (by kernel_rfl) Tryd.func6 Tryd.underlying4 rfl spec (by kernel_rfl)
    (ChangeSpec.witness_shaped (enc := enc) (C := Tryd.checked) (os := os) (X := fun w _ => laidMetH Tryd.prog laidKeys w) false (World.doorLaid Tryd.prog 400 os) #[.string ⟨#[]⟩, .int .i64 0, .int .i64 0, .string ⟨#[]⟩, .slice none 0 0, .string ⟨#[]⟩, .slice none 0 0] 8 rfl (World.shaped_of_RefB (by kernel_rfl) (by kernel_rfl)) (by kernel_rfl) (by kernel_rfl) (by kernel_rfl) (door_met os _)) ?_
  intro W base args ds before hval0 hA0 hlt hwt0 hL
  have hval : ∀ (j : Nat) t v, Tryd.f6.params[j]? = some t → args[j]? = some v → Value.okWide Tryd.prog W .any base t v := hval0
  have hA : DataW.TrodAll enc Tryd.prog W 0 (fun _ => true) true Tryd.f6.params.toList args.toList ds before := hA0
  have hwt : (DataW.weightsEach Tryd.prog (Tryd.f6.params.toList ++ Rows.digestBindingSpec.plain.varTypes Tryd.prog) (ds ++ [])).all (· ≤ reachBytes) = true := hwt0
  obtain hK := tab_of_laid hL
  clear hval0 hA0 hwt0
  rw [Tryd.params6] at hA hval hwt
  obtain ⟨l, hl, rfl⟩ : ∃ l : List Value, args.toList = l ∧ args = l.toArray := ⟨args.toList, rfl, by simp⟩
  rw [hl] at hA
  obtain ⟨v0, l0, d0, e0, p0, q0, rfl, rfl, rfl, t0, hA⟩ := trodAll_cons hA
  obtain ⟨v1, l1, d1, e1, p1, q1, rfl, rfl, rfl, t1, hA⟩ := trodAll_cons hA
  obtain ⟨v2, l2, d2, e2, p2, q2, rfl, rfl, rfl, t2, hA⟩ := trodAll_cons hA
  obtain ⟨v3, l3, d3, e3, p3, q3, rfl, rfl, rfl, t3, hA⟩ := trodAll_cons hA
  obtain ⟨v4, l4, d4, e4, p4, q4, rfl, rfl, rfl, t4, hA⟩ := trodAll_cons hA
  obtain ⟨v5, l5, d5, e5, p5, q5, rfl, rfl, rfl, t5, hA⟩ := trodAll_cons hA
  obtain ⟨v6, l6, d6, e6, p6, q6, rfl, rfl, rfl, t6, hA⟩ := trodAll_cons hA
  obtain ⟨rfl, rfl, rfl⟩ := trodAll_nil hA
  clear hl
  obtain ⟨root, rfl, rfl, rfl, yroot⟩ := open_string Tryd.underlying9 (hval 0 9 v0 rfl rfl) t0
  obtain ⟨n, rfl, rfl, rfl, wn⟩ := open_int Tryd.underlying3 (hval 1 3 v1 rfl rfl) t1
  have hn := wf64 wn
  obtain ⟨i, rfl, rfl, rfl, wi⟩ := open_int Tryd.underlying3 (hval 2 3 v2 rfl rfl) t2
  have hi := wf64 wi
  obtain ⟨s, rfl, rfl, rfl, ys⟩ := open_string Tryd.underlying9 (hval 3 9 v3 rfl rfl) t3
  obtain ⟨p_p, len_p, cap_p, p, rfl, ll_p, lc_p, lm_p, at_p, wf_p, hd_p⟩ := open_strs_at Tryd.underlying22 Tryd.underlying9 (by kernel_rfl) (hval 4 22 v4 rfl rfl) t4
  obtain ⟨t, rfl, rfl, rfl, yt⟩ := open_string Tryd.underlying9 (hval 5 9 v5 rfl rfl) t5
  obtain ⟨p_q, len_q, cap_q, q, rfl, ll_q, lc_q, lm_q, at_q, wf_q, hd_q⟩ := open_strs_at Tryd.underlying22 Tryd.underlying9 (by kernel_rfl) (hval 6 22 v6 rfl rfl) t6
  exact by
    have hlp : (p.take len_p).length = len_p := by rw [List.length_take]; omega
    have hlq : (q.take len_q).length = len_q := by rw [List.length_take]; omega
    have h := binding_any root n i s t (p.take len_p) (q.take len_q) p_p p_q cap_p cap_q W hn.1 hn.2 hi.1 hi.2 (by unfold maxLen at ys; omega) (by unfold maxLen at yt; omega) (by unfold maxLen at lm_p; omega) (by unfold maxLen at lm_q; omega) (takeSmall wf_p len_p) (takeSmall wf_q len_q) (strsAt_slice ll_p at_p) (strsAt_slice ll_q at_q) hK
    rw [hlp, hlq] at h
    exact h

theorem row_holds : Rows.DigestBindingSaid :=
  OpenClaim.holds_of_wide 6 Tryd.f6 rfl rfl rfl rfl rfl rfl rfl ⟨rfl, rfl, rfl, rfl, rfl⟩ rfl rfl rfl rfl rfl (by kernel_rfl) Tryd.func6 (by kernel_rfl)
    (of_decide_eq_true (by kernel_rfl)) (by unfold Func.isWrapper; first | (rw [if_pos (by decide +kernel)]; kernel_rfl) | (rw [if_neg (by decide +kernel)]; exact ⟨rfl, rfl⟩))
    (fun os started H enc _ => lifted os started H enc)

theorem card_holds : Rows.DigestBindingCardSaid :=
  Claim7.holds_tied_plain_at .later [] [.data] true _ false
    row_holds (fun _ h => by cases h) (by kernel_rfl) (fun _ h => by cases h) digestBinding_row_tie rfl ⟨rfl, rfl⟩ (by kernel_rfl) rfl
    (fun f fn hf hfn => by
      obtain rfl : f = 6 := Option.some.inj ((show Tryd.prog.funcNamed "onair/onairlaw02.DigestBinding" = some 6 by kernel_rfl).symm.trans hf) |>.symm
      obtain rfl : fn = Tryd.f6 := (Option.some.inj (Tryd.func6.symm.trans hfn)).symm
      exact ⟨by kernel_rfl, fun j t ht => standIns_of (by kernel_rfl) ht⟩)
    (by kernel_rfl)

end BD
end Go.Proofs.YtjddmhophamijaaDoor

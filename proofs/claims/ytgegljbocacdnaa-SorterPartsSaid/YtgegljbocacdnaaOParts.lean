/- SorterParts: for every three lists of texts the law answers true, and each argument reads afterwards as it read before. No condition. -/
import Derived.Test.YtgegljbocacdnaaOY
import Derived.Test.YtgegljbocacdnaaOX
set_option maxRecDepth 100000
namespace Go.Proofs.Ytgegljbocacdnaa
open Go Go.ChangeShapes Go.WideShapes Go.ChangeAt Go.RowKit
open Go.ChangeMaps (open_string shut_string)

theorem sorterParts_own : ownKnob Try.prog.godebug = none := by kernel_rfl

theorem sorterParts_lifted (os : Os) (started : os.Started) (H : Type) (enc : TypeId × Value → H) :
    ReturnsInHanded {} Try.checked os 6 .any (Rows.sorterPartsSpec.pre6 enc Try.prog Try.f6 Rows.sorterPartsRow.domain false) (Rows.sorterPartsSpec.post enc Try.prog Try.f6 false true false false) := by
  refine returnsInHanded_of_change_sized (C := Try.checked) sorterParts_own started (by kernel_rfl) Try.func6
    (ChangeSpec.witness6 (enc := enc) (C := Try.checked) false ⟨#[], #[.slice none 0 0, .slice none 0 0, .slice none 0 0], []⟩ 8 (by kernel_rfl) (by kernel_rfl) (by kernel_rfl) (by kernel_rfl)) ?_
  intro W base args ds gs before hval0 hW hcnd hsz0 _
  have hval : ∀ (j : Nat) t v, Try.f6.params[j]? = some t → args[j]? = some v → Value.okWide Try.prog W .any base t v := hval0
  have hsz : (DataW.weightsEach Try.prog (Try.f6.params.toList ++ Rows.sorterPartsSpec.plain.varTypes Try.prog) (ds ++ gs)).all (· ≤ reachBytes) = true := hsz0
  have hW' := hW
  obtain ⟨p, q, hA0, hV, rfl, hfz, hnd⟩ := hW
  have hA : DataW.TrodAll enc Try.prog W 0 (fun _ => true) true Try.f6.params.toList args.toList ds p := hA0
  rw [Try.params6] at hA hval hsz
  obtain ⟨v0, v1, v2, d0, d1, d2, p0, p1, p2, rfl, rfl, rfl, h0, h1, h2⟩ := trodAll_three hA
  obtain ⟨rfl, rfl⟩ := trodVars_none hV
  obtain ⟨xs0, hT0, hw0⟩ := open_textc (hval 0 22 v0 rfl rfl) h0
  have hz0 := hw0 (weights_of hsz (j := 0) rfl rfl)
  obtain ⟨xs1, hT1, hw1⟩ := open_textc (hval 1 22 v1 rfl rfl) h1
  have hz1 := hw1 (weights_of hsz (j := 1) rfl rfl)
  obtain ⟨xs2, hT2, hw2⟩ := open_textc (hval 2 22 v2 rfl rfl) h2
  have hz2 := hw2 (weights_of hsz (j := 2) rfl rfl)
  clear hA0 hval0 hsz0
  simp only [List.append_nil] at hW'
  have hlt0 : ∀ x ∈ p0, x.block < W.heap.size := fun x hx => hW'.lt x (by simp [hx])
  have hlt1 : ∀ x ∈ p1, x.block < W.heap.size := fun x hx => hW'.lt x (by simp [hx])
  have hlt2 : ∀ x ∈ p2, x.block < W.heap.size := fun x hx => hW'.lt x (by simp [hx])
  refine (parts_walk v0 v1 v2 xs0 xs1 xs2 W hT0 hT1 hT2 hz0.1 hz1.1 hz2.1).mono fun e W' ⟨he, hb⟩ => ?_
  subst he
  refine ⟨_, rfl, _, _, _, [], p0 ++ (p1 ++ p2), [], hW', ?_, ?_, ?_, hb.frame _, fun h => by cases h⟩
  · exact trodAll_mk1 (shut_bool Try.underlying4 _)
  · exact trodAll_mk3 (Below.trod laidOut readRecStrs (of_decide_eq_true (by kernel_rfl)) h0 hb hlt0) (Below.trod laidOut readRecStrs (of_decide_eq_true (by kernel_rfl)) h1 hb hlt1) (Below.trod laidOut readRecStrs (of_decide_eq_true (by kernel_rfl)) h2 hb hlt2)
  · rfl

theorem sorterParts_holds : Rows.SorterPartsSaid :=
  OpenClaim.holds_of_wide 6 Try.f6 rfl rfl rfl rfl rfl rfl rfl ⟨rfl, rfl, rfl, rfl, rfl⟩ rfl rfl rfl rfl rfl (by kernel_rfl) Try.func6 (by kernel_rfl)
    (of_decide_eq_true (by kernel_rfl)) (by unfold Func.isWrapper; rw [if_neg (of_decide_eq_false (by kernel_rfl))]; exact ⟨rfl, rfl⟩)
    (fun os started H enc _ => sorterParts_lifted os started H enc)
#print axioms sorterParts_holds
end Go.Proofs.Ytgegljbocacdnaa

/- MethodHalves: for every script of calls and every datum the law answers true: the range of a method in hand up to the datum and the range from it on are together all of its entries whose keys are no lists, and those of the datum twice; backward is forward turned; its arguments read afterwards as they read before. No condition. -/
import Derived.Test.YtnnmigglcpkomaaMT
import Derived.Test.YtnnmigglcpkomaaMW
set_option maxRecDepth 100000
namespace Go.Proofs.Ytnnmigglcpkomaa
open Go Go.ChangeShapes Go.WideShapes Go.ChangeAt Go.RowKit
open Go.ChangeMaps (open_string shut_string)
open Dm

theorem methodHalves_own : ownKnob Try.prog.godebug = none := by kernel_rfl

theorem methodHalves_lifted (os : Os) (started : os.Started) (H : Type) (enc : TypeId × Value → H) :
    ReturnsInHanded {} Try.checked os 6 .any (Rows.methodHalvesSpec.pre6 enc Try.prog Try.f6 Rows.methodHalvesRow.domain false) (Rows.methodHalvesSpec.post enc Try.prog Try.f6 false true false false) := by
  refine returnsInHanded_of_change_sized (C := Try.checked) methodHalves_own started (by kernel_rfl) Try.func6
    (ChangeSpec.witness6 (enc := enc) (C := Try.checked) false ⟨#[], #[.slice none 0 0, .agg #[.int .i64 0, .int .i64 0, .string ⟨#[]⟩, .slice none 0 0]], []⟩ 8 (by kernel_rfl) (by kernel_rfl) (by kernel_rfl) (by kernel_rfl)) ?_
  intro W base args ds gs before hval0 hW hcnd hsz0 _
  have hval : ∀ (j : Nat) t v, Try.f6.params[j]? = some t → args[j]? = some v → Value.okWide Try.prog W .any base t v := hval0
  have hsz : (DataW.weightsEach Try.prog (Try.f6.params.toList ++ Rows.methodHalvesSpec.plain.varTypes Try.prog) (ds ++ gs)).all (· ≤ reachBytes) = true := hsz0
  have hW' := hW
  obtain ⟨p, q, hA0, hV, rfl, hfz, hnd⟩ := hW
  have hA : DataW.TrodAll enc Try.prog W 0 (fun _ => true) true Try.f6.params.toList args.toList ds p := hA0
  rw [Try.params6] at hA hval hsz
  obtain ⟨v0, v1, d0, d1, p0, p1, rfl, rfl, rfl, h0, h1⟩ := trodAll_two hA
  obtain ⟨rfl, rfl⟩ := trodVars_none hV
  obtain ⟨a0, ops0, c0, rfl, hO0⟩ := Dm.open_ops (hval 0 22 v0 rfl rfl) h0
  have hz0 := Dm.ops_length h0 (Dm.weights_one hsz (j := 0) rfl rfl)
  obtain ⟨e1, rfl, hE1⟩ := Dm.open_datum (hval 1 33 v1 rfl rfl) h1
  clear hA0 hval0 hsz0
  simp only [List.append_nil] at hW'
  have hlt0 : ∀ x ∈ p0, x.block < W.heap.size := fun x hx => hW'.lt x (by simp [hx])
  have hlt1 : ∀ x ∈ p1, x.block < W.heap.size := fun x hx => hW'.lt x (by simp [hx])
  refine (Dm.methodHalves_walk a0 c0 ops0 e1 W hO0 hz0 hE1).mono fun e W' ⟨he, hb⟩ => ?_
  subst he
  refine ⟨_, rfl, _, _, _, [], p0 ++ p1, [], hW', ?_, ?_, ?_, hb.frame _, fun h => by cases h⟩
  · exact trodAll_mk1 (shut_bool Try.underlying4 _)
  · exact trodAll_mk2 (Below.trod laidOut readRecOps (of_decide_eq_true (by kernel_rfl)) h0 hb hlt0) (Below.trod laidOut readRecDatum (of_decide_eq_true (by kernel_rfl)) h1 hb hlt1)
  · rfl

theorem methodHalves_holds : Rows.MethodHalvesSaid :=
  OpenClaim.holds_of_wide 6 Try.f6 rfl rfl rfl rfl rfl rfl rfl ⟨rfl, rfl, rfl, rfl, rfl⟩ rfl rfl rfl rfl rfl (by kernel_rfl) Try.func6 (by kernel_rfl)
    (of_decide_eq_true (by kernel_rfl)) (by unfold Func.isWrapper; rw [if_neg (of_decide_eq_false (by kernel_rfl))]; exact ⟨rfl, rfl⟩)
    (fun os started H enc _ => methodHalves_lifted os started H enc)
#print axioms methodHalves_holds
end Go.Proofs.Ytnnmigglcpkomaa

/- MethodRanges: for every script of calls, every two data and every number the law answers true: Range of a method in hand, from either datum or none up to either or none, forward or back, gives the entries that the entries in order give, and refuses as they do; its arguments read afterwards as they read before. No condition. -/
import Derived.Test.YtnnmigglcpkomaaMU
import Derived.Test.YtnnmigglcpkomaaMW
set_option maxRecDepth 100000
namespace Go.Proofs.Ytnnmigglcpkomaa
open Go Go.ChangeShapes Go.WideShapes Go.ChangeAt Go.RowKit
open Go.ChangeMaps (open_string shut_string)
open Dm

theorem methodRanges_own : ownKnob Try.prog.godebug = none := by kernel_rfl

theorem methodRanges_lifted (os : Os) (started : os.Started) (H : Type) (enc : TypeId × Value → H) :
    ReturnsInHanded {} Try.checked os 4 .any (Rows.methodRangesSpec.pre6 enc Try.prog Try.f4 Rows.methodRangesRow.domain false) (Rows.methodRangesSpec.post enc Try.prog Try.f4 false true false false) := by
  refine returnsInHanded_of_change_sized (C := Try.checked) methodRanges_own started (by kernel_rfl) Try.func4
    (ChangeSpec.witness6 (enc := enc) (C := Try.checked) false ⟨#[], #[.slice none 0 0, .agg #[.int .i64 0, .int .i64 0, .string ⟨#[]⟩, .slice none 0 0, .int .i64 0, .int .i64 0, .string ⟨#[]⟩, .slice none 0 0], .int .i64 0], []⟩ 8 (by kernel_rfl) (by kernel_rfl) (by kernel_rfl) (by kernel_rfl)) ?_
  intro W base args ds gs before hval0 hW hcnd hsz0 _
  have hval : ∀ (j : Nat) t v, Try.f4.params[j]? = some t → args[j]? = some v → Value.okWide Try.prog W .any base t v := hval0
  have hsz : (DataW.weightsEach Try.prog (Try.f4.params.toList ++ Rows.methodRangesSpec.plain.varTypes Try.prog) (ds ++ gs)).all (· ≤ reachBytes) = true := hsz0
  have hW' := hW
  obtain ⟨p, q, hA0, hV, rfl, hfz, hnd⟩ := hW
  have hA : DataW.TrodAll enc Try.prog W 0 (fun _ => true) true Try.f4.params.toList args.toList ds p := hA0
  rw [Try.params4] at hA hval hsz
  obtain ⟨v0, v1, v2, d0, d1, d2, p0, p1, p2, rfl, rfl, rfl, h0, h1, h2⟩ := trodAll_three hA
  obtain ⟨rfl, rfl⟩ := trodVars_none hV
  obtain ⟨a0, ops0, c0, rfl, hO0⟩ := Dm.open_ops (hval 0 22 v0 rfl rfl) h0
  have hz0 := Dm.ops_length h0 (Dm.weights_one hsz (j := 0) rfl rfl)
  obtain ⟨e1, f1, rfl, hE1, hF1⟩ := Dm.open_pair (hval 1 39 v1 rfl rfl) h1
  obtain ⟨m2, rfl, rfl, rfl, w2⟩ := open_int Try.underlying3 (hval 2 3 v2 rfl rfl) h2
  clear hA0 hval0 hsz0
  simp only [List.append_nil] at hW'
  have hlt0 : ∀ x ∈ p0, x.block < W.heap.size := fun x hx => hW'.lt x (by simp [hx])
  have hlt1 : ∀ x ∈ p1, x.block < W.heap.size := fun x hx => hW'.lt x (by simp [hx])
  refine (Dm.methodRanges_walk a0 c0 ops0 e1 f1 m2 W hO0 hz0 hE1 hF1).mono fun e W' ⟨he, hb⟩ => ?_
  subst he
  refine ⟨_, rfl, _, _, _, [], p0 ++ p1, [], hW', ?_, ?_, ?_, hb.frame _, fun h => by cases h⟩
  · exact trodAll_mk1 (shut_bool Try.underlying4 _)
  · have h := trodAll_mk3 (Below.trod laidOut readRecOps (of_decide_eq_true (by kernel_rfl)) h0 hb hlt0) (Below.trod laidOut readRecPair (of_decide_eq_true (by kernel_rfl)) h1 hb hlt1) (shut_int Try.underlying3 w2)
    simp only [List.append_nil] at h
    exact h
  · rfl

theorem methodRanges_holds : Rows.MethodRangesSaid :=
  OpenClaim.holds_of_wide 4 Try.f4 rfl rfl rfl rfl rfl rfl rfl ⟨rfl, rfl, rfl, rfl, rfl⟩ rfl rfl rfl rfl rfl (by kernel_rfl) Try.func4 (by kernel_rfl)
    (of_decide_eq_true (by kernel_rfl)) (by unfold Func.isWrapper; rw [if_neg (of_decide_eq_false (by kernel_rfl))]; exact ⟨rfl, rfl⟩)
    (fun os started H enc _ => methodRanges_lifted os started H enc)
#print axioms methodRanges_holds
end Go.Proofs.Ytnnmigglcpkomaa

/- HeapCells: for every list of data, every string and every number, the law answers true, and each argument reads afterwards as it read before. Conditions: the package variable that the row lists starts as the program's text lays it (the card ties it). -/
import Derived.Test.YtijggofelepaaaaGreatDoorCDF
import Derived.Test.YtijggofelepaaaaGreatDoorMAT
import Derived.Test.YtijggofelepaaaaGreatDoorCards
import Derived.Test.YtijggofelepaaaaGreatDoorTie
import Derived.ChangeMaps5
import Derived.SevenTiedAt
/- The walk of HeapCells. -/
set_option maxRecDepth 100000
namespace Go.Proofs.YtijggofelepaaaaGreatDoor.Dm
open Go Go.RowKit

set_option maxHeartbeats 3200000 in
theorem heapCells_walk (a : Option Addr) (xs : List It) (lc : Nat) (cs : List Dt) (s : ByteArray) (t : Int) (w : World) (hT : Tab w) (h : DsR w a xs cs) (ht : I64 t) :
    Calls Tryz.prog 5 #[.slice a xs.length lc, .string s, .int .i64 t] w fun e w' => e = .returned (.bool true) ∧ Below w.heap.size w w' := by
  obtain ⟨Bs, code, hres, hcase⟩ : ∃ (Bs : ByteArray) (code : Int), rowRes cs = .tuple #[.string Bs, .int .i64 code] ∧ (rowOk cs = true ∧ Bs = ⟨(rowB cs).toArray⟩ ∧ code = 0 ∨ rowOk cs = false ∧ code = 70) := by
    unfold rowRes
    cases hok : rowOk cs
    · exact ⟨⟨#[]⟩, 70, by simp, .inr ⟨rfl, rfl⟩⟩
    · exact ⟨⟨(rowB cs).toArray⟩, 0, by simp, .inl ⟨rfl, rfl, rfl⟩⟩
  have HT : Hid (∀ W, Below w.heap.size w W → Calls Tryz.prog 23 #[] W fun e w' => e = .returned (.bool true) ∧ Below W.heap.size W w') := Lib.hid fun W hb => awake_any W (hT.below hb hT.1)
  have H1 : Hid (∀ W, Below w.heap.size w W → Calls Tryz.prog 28 #[.slice a xs.length lc] W fun e w' => e = .returned (.tuple #[.string Bs, .int .i64 code]) ∧ Below W.heap.size W w') := Lib.hid fun W hb => by
    rw [← hres]; exact hbytes_row a xs lc cs W (h.below hb)
  have H2 : Hid (∀ W, Below w.heap.size w W → Calls Tryz.prog 29 #[.slice a xs.length lc] W fun e w' => e = .returned (.tuple #[.string Bs, .int .i64 code]) ∧ Below W.heap.size W w') := Lib.hid fun W hb => by
    rw [← hres]; exact rbytes_row a xs lc cs W (h.below hb)
  have H3 : Hid (∀ W (u : ByteArray), Calls Tryz.prog 30 #[.string u] W (RowAns u.data.toList W)) := Lib.hid fun W u => (hof_row u W).mono fun _ _ hh => hh.ans
  have H4 : Hid (∀ W (u : ByteArray), Calls Tryz.prog 31 #[.string u] W (RowAns u.data.toList W)) := Lib.hid fun W u => (rof_row u W).mono fun _ _ hh => hh.ans
  have H5 : Hid (∀ W, Calls Tryz.prog 33 #[.int .i64 t] W fun e w' => e = .returned (.int .i64 (pgI t)) ∧ w' = W) := Lib.hid fun W => page_int t W ht
  have H6 : Hid (∀ W, Calls Tryz.prog 34 #[.int .i64 t] W fun e w' => e = .returned (.int .i64 (pgI t)) ∧ w' = W) := Lib.hid fun W => rpage_int t W ht
  have H7 : Hid (rowOk cs = true → ∀ W (b : Option Addr) (ys : List It) (lb : Nat), Below w.heap.size w W → DsR W b ys cs → Calls Tryz.prog 32 #[.slice b ys.length lb, .slice a xs.length lc] W fun e w' => e = .returned (.bool true) ∧ Below W.heap.size W w') := Lib.hid fun hok W b ys lb hb hd => by
    obtain ⟨p1, p2, _⟩ := rowOk_parts hok
    exact same_row b ys lb a xs lc cs W hd (h.below hb) (fun c hc => few_of_ok (p2 c hc)) (by rw [hd.len]; omega)
  have HBK : Hid (rowOk cs = true → rowF (rowB cs) = some cs) := Lib.hid fun hok => row_back h hok
  have HCS := Lib.hid hcase
  obtain ⟨pg, hpg⟩ : ∃ pg, pg = pgI t := ⟨_, rfl⟩
  rw [← hpg] at H5 H6
  obtain ⟨n, hn⟩ : ∃ n, n = xs.length := ⟨_, rfl⟩
  rw [← hn] at H1 H2 H7 ⊢
  clear hcase hres hT h ht hpg hn
  go_enter Tryz.func5, Tryz.ntmps5
  go_wp2_with fail
  refine (H1.out _ (Below.refl _ _)).mono ?_
  rintro e w1 ⟨rfl, hb1⟩
  have HB1 := Lib.hid hb1
  clear hb1 H1
  go_wp2_with fail
  refine (H2.out _ HB1.out).mono ?_
  rintro e w2 ⟨rfl, hb2⟩
  have HB2 := Lib.hid (HB1.out.trans (hb2.mono HB1.out.size))
  clear hb2 H2 HB1
  go_wp2_with fail
  refine (H3.out _ s).mono ?_
  rintro e w3 ⟨a3, ys3, l3, rfl, hd3, hf3, hb3⟩
  have HD3 := Lib.hid hd3
  have HF3 := Lib.hid hf3
  have HB3 := Lib.hid (HB2.out.trans (hb3.mono HB2.out.size))
  obtain ⟨c3, hc3⟩ : ∃ c3 : Int, c3 = if (rowF s.data.toList).isSome then 0 else 70 := ⟨_, rfl⟩
  have HC3 := Lib.hid hc3
  rw [← hc3]
  clear hd3 hf3 hb3 HB2 hc3
  obtain ⟨n3, hn3⟩ : ∃ n3, n3 = ys3.length := ⟨_, rfl⟩
  have HN3 := Lib.hid hn3
  rw [← hn3]
  clear hn3
  go_wp2_with fail
  refine (H4.out _ s).mono ?_
  rintro e w4 ⟨a4, ys4, l4, rfl, hd4, hf4, hb4⟩
  rw [← HC3.out]
  have HS4 : Hid (Calls Tryz.prog 32 #[.slice a3 n3 l3, .slice a4 ys4.length l4] w4 fun e w' => e = .returned (.bool true) ∧ Below w4.heap.size w4 w') := Lib.hid (by
    rw [HN3.out]
    refine same_row a3 ys3 l3 a4 ys4 l4 _ w4 (HD3.out.below hb4) hd4 hf4 ?_
    rw [HD3.out.len]
    cases hr : rowF s.data.toList with
    | none => simp
    | some ds =>
      have := rowF_few hr
      simp only [Option.getD_some]
      omega)
  have HB4 := Lib.hid (HB3.out.trans (hb4.mono HB3.out.size))
  obtain ⟨n4, hn4⟩ : ∃ n4, n4 = ys4.length := ⟨_, rfl⟩
  rw [← hn4] at HS4 ⊢
  clear hd4 hf4 hb4 hn4 HC3 HN3 HD3 HF3 HB3
  go_wp2_with fail
  refine HS4.out.mono ?_
  rintro e w5 ⟨rfl, hb5⟩
  have HB5 := Lib.hid (HB4.out.trans (hb5.mono HB4.out.size))
  clear hb5 HB4 HS4
  go_wp2_with fail
  refine (H5.out _).mono ?_
  rintro e w6 ⟨rfl, hw⟩
  subst w6
  go_wp2_with fail
  refine (H6.out _).mono ?_
  rintro e w6 ⟨rfl, hw⟩
  subst w6
  clear H4 H5 H6
  rcases HCS.out with ⟨hok, rfl, rfl⟩ | ⟨hok, rfl⟩
  · have HBR : Hid (rowF (rowB cs) = some cs) := Lib.hid (HBK.out hok)
    have HSM := Lib.hid (H7.out hok)
    clear H7 HBK HCS hok
    go_wp2_with fail
    refine (H3.out _ _).mono ?_
    rintro e w7 ⟨a7, ys7, l7, rfl, hd7, hf7, hb7⟩
    have e7 : (⟨(rowB cs).toArray⟩ : ByteArray).data.toList = rowB cs := by simp
    rw [e7, HBR.out] at hd7 ⊢
    have HB7 := Lib.hid (HB5.out.trans (hb7.mono HB5.out.size))
    have HS7 := Lib.hid (HSM.out w7 a7 ys7 l7 HB7.out hd7)
    obtain ⟨n7, hn7⟩ : ∃ n7, n7 = ys7.length := ⟨_, rfl⟩
    rw [← hn7] at HS7 ⊢
    clear hd7 hf7 hb7 hn7 HB5 HSM H3 e7
    simp only [Option.isSome_some, if_true]
    go_wp2_with fail
    refine HS7.out.mono ?_
    rintro e w8 ⟨rfl, hb8⟩
    have HB8 := Lib.hid (HB7.out.trans (hb8.mono HB7.out.size))
    have HAW := Lib.hid (HT.out w8 HB8.out)
    clear hb8 HB7 HS7 HT
    go_wp2_with fail
    refine HAW.out.mono ?_
    rintro e w9 ⟨rfl, hb9⟩
    have HE := Lib.hid (HB8.out.trans (hb9.mono HB8.out.size))
    clear hb9 HAW
    go_wp2
    go_ret
    exact ⟨rfl, HE.out⟩
  · have HAW := Lib.hid (HT.out w5 HB5.out)
    clear H7 HBK HCS hok H3 HT
    go_wp2_with fail
    refine HAW.out.mono ?_
    rintro e w9 ⟨rfl, hb9⟩
    have HE := Lib.hid (HB5.out.trans (hb9.mono HB5.out.size))
    clear hb9 HAW
    go_wp2
    go_ret
    exact ⟨rfl, HE.out⟩
end Go.Proofs.YtijggofelepaaaaGreatDoor.Dm

set_option maxRecDepth 100000
namespace Go.Proofs.YtijggofelepaaaaGreatDoor
open Go Go.ChangeShapes Go.WideShapes Go.ChangeAt Go.RowKit
open Go.ChangeMaps (open_string shut_string)

theorem heapCells_met (os : Os) (args : Array Value) : laidMetH Tryz.prog listed ((World.doorLaid Tryz.prog 4000 os).forCall (fun _ _ => 0) ⟨#[], args, []⟩).memory :=
  laidMetH_of_parts3 (fuel := 8) (laidMet_of_run' 8 (by kernel_rfl) (by kernel_rfl)) (by kernel_rfl) (by kernel_rfl)

set_option maxHeartbeats 1600000 in
theorem heapCells_lifted (os : Os) (started : os.Started) (H : Type) (enc : TypeId × Value → H) :
    ReturnsInHanded {} Tryz.checked os 5 .any (fun w args => (Rows.heapCellsSpec.pre enc Tryz.prog Tryz.f5 [] false w args ∧ laidMetH Tryz.prog listed w) ∧ sizedMet enc Tryz.prog Tryz.f5 (OpenSpec.ofChange Rows.heapCellsSpec) false w args)
      (Rows.heapCellsSpec.post enc Tryz.prog Tryz.f5 false true false false) := by
  refine returnsInHanded_of_change_and (C := Tryz.checked) (X := fun w _ => laidMetH Tryz.prog listed w) (fun _ _ _ hh h => h.of_heap hh) ownS started (by kernel_rfl) Tryz.func5
    (ChangeSpec.witness_shaped (enc := enc) (C := Tryz.checked) (os := os) (X := fun w _ => laidMetH Tryz.prog listed w) false (World.doorLaid Tryz.prog 4000 os) #[.slice none 0 0, .string ⟨#[]⟩, .int .i64 0] 8 rfl (World.shaped_of_RefB (by kernel_rfl) (by kernel_rfl)) (by kernel_rfl) (by kernel_rfl) (by kernel_rfl) (heapCells_met os _)) ?_
  intro W base args ds gs before hval0 hW _ hsz0 hL _
  have hval : ∀ (j : Nat) t v, Tryz.f5.params[j]? = some t → args[j]? = some v → Value.okWide Tryz.prog W .any base t v := hval0
  have hsz : (DataW.weightsEach Tryz.prog (Tryz.f5.params.toList ++ Rows.heapCellsSpec.plain.varTypes Tryz.prog) (ds ++ gs)).all (· ≤ reachBytes) = true := hsz0
  have hW' := hW
  obtain ⟨p, q, hA0, hV, rfl, hfz, hnd⟩ := hW
  have hA : DataW.TrodAll enc Tryz.prog W 0 (fun _ => true) true Tryz.f5.params.toList args.toList ds p := hA0
  rw [Tryz.params5] at hA hval hsz
  obtain ⟨v0, v1, v2, d0, d1, d2, p0, p1, p2, rfl, rfl, rfl, h0, h1, h2⟩ := trodAll_three hA
  obtain ⟨rfl, rfl⟩ := trodVars_none hV
  obtain ⟨a0, xs0, lc0, cs0, rfl, hD⟩ := Dm.open_list (hval 0 82 v0 rfl rfl) h0
  obtain ⟨s1, rfl, rfl, rfl, hs1⟩ := open_string Tryz.underlying9 (hval 1 9 v1 rfl rfl) h1
  obtain ⟨t, rfl, rfl, rfl, wa⟩ := open_int Tryz.underlying3 (hval 2 3 v2 rfl rfl) h2
  clear hA0 hval0 hsz0
  simp only [List.append_nil] at hW'
  have hlt0 : ∀ x ∈ p0, x.block < W.heap.size := fun x hx => hW'.lt x (by simp [hx])
  refine (Dm.heapCells_walk a0 xs0 lc0 cs0 s1 t W (laid_of hL) hD (Dm.i64_of_wf wa)).mono fun e W' ⟨he, hb⟩ => ?_
  subst he
  refine ⟨_, rfl, _, _, _, [], p0, [], hW', ?_, ?_, ?_, hb.frame _, fun h => by cases h⟩
  · exact trodAll_mk1 (shut_bool Tryz.underlying4 _)
  · have h := trodAll_mk3 (Below.trod Dm.laidOut Dm.readRecData (of_decide_eq_true (by kernel_rfl)) h0 hb hlt0) (shut_string Tryz.underlying9 hs1) (shut_int Tryz.underlying3 wa)
    simp only [List.append_nil] at h
    exact h
  · rfl

theorem heapCells_said : Rows.HeapCellsSaid :=
  OpenClaim.holds_of_wide 5 Tryz.f5 rfl rfl rfl rfl rfl rfl rfl ⟨rfl, rfl, rfl, rfl, rfl⟩ rfl rfl rfl rfl rfl (by kernel_rfl) Tryz.func5 (by kernel_rfl)
    (of_decide_eq_true (by kernel_rfl)) (by unfold Func.isWrapper; rw [if_neg (of_decide_eq_false (by kernel_rfl))]; exact ⟨rfl, rfl⟩)
    (fun os started H enc _ => heapCells_lifted os started H enc)

theorem heapCells_holds : Rows.HeapCellsCardSaid :=
  Claim7.holds_tied_plain_at .later [] [.data] true (true, "3c034a4557810e19f86b5ed09d73e72f6f8cf53b0af36773a1f530690163dbac") false
    heapCells_said (fun _ h => by cases h) (by kernel_rfl) (fun _ h => by cases h) heapCells_row_tie rfl ⟨rfl, rfl⟩ (by kernel_rfl) rfl
    (fun f fn hf hfn => by
      obtain rfl : f = 5 := Option.some.inj ((show Tryz.prog.funcNamed "vestibule/vestibulelaw07.HeapCells" = some 5 by kernel_rfl).symm.trans hf) |>.symm
      obtain rfl : fn = Tryz.f5 := (Option.some.inj (Tryz.func5.symm.trans hfn)).symm
      exact ⟨by kernel_rfl, fun j t ht => by
        rw [Tryz.params5] at ht
        have hm : t ∈ [82, 9, 3] := List.mem_of_getElem? (by simpa using ht)
        have hall : ∀ t ∈ [82, 9, 3], Tryz.prog.wantsStandIn t = false := by
          intro t ht
          simp only [List.mem_cons, List.not_mem_nil, or_false] at ht
          rcases ht with rfl | rfl | rfl <;> kernel_rfl
        exact hall t hm⟩)
    (by kernel_rfl)
#print axioms heapCells_holds
end Go.Proofs.YtijggofelepaaaaGreatDoor

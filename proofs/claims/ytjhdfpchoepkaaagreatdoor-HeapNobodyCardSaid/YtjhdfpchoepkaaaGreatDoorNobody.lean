/- HeapNobody: for every number and every string, the law answers true, and each argument reads afterwards as it read before. Conditions: the package variable that the row lists starts as the program's text lays it (the card ties it). -/
import Derived.Test.YtjhdfpchoepkaaaGreatDoorMAT
import Derived.Deep.CutRange
import Derived.Test.YtjhdfpchoepkaaaGreatDoorCards
import Derived.Test.YtjhdfpchoepkaaaGreatDoorTie
import Derived.ChangeMaps5
import Derived.SevenTiedAt
/- The walk of HeapNobody. -/
set_option maxRecDepth 100000
namespace Go.Proofs.YtjhdfpchoepkaaaGreatDoor
open Go Go.RowKit

/-- New for whatever number. -/
theorem hpnew_any {J : List RawOp → Prop} {B : Nat} {S : Nat → Prop} {c : Ac} {h : Hd} {G : Nat → List UInt8} {w : World} (x : ActV J B S c h G w) (n : Int) :
    Calls Tryz.prog 28 #[.pointer (some ⟨c.a, 0, none⟩), .int .i64 n] w fun e w' => ∃ (v : Value) (f : Int), e = .returned (.tuple #[v, .int .i64 f]) ∧ Hid ((∃ tb, v = .pointer (some ⟨tb, 0, none⟩) ∧ f = 0 ∧ 0 ≤ n ∧ n < 16) ∨ (v = .pointer none ∧ f = 1 ∧ ¬ (0 ≤ n ∧ n < 16))) ∧ Hid (Below w.heap.size w w') := by
  by_cases hq : 0 ≤ n ∧ n < 16
  · obtain ⟨h0, h1⟩ := hq
    obtain ⟨r, rfl⟩ := Int.eq_ofNat_of_zero_le h0
    refine (hp_new x r (by omega)).mono ?_
    rintro e w' ⟨tb, rfl, _, _, hb⟩
    exact ⟨_, _, rfl, Lib.hid (.inl ⟨tb, rfl, rfl, h0, h1⟩), Lib.hid hb⟩
  · refine (hp_bad _ n w hq).mono ?_
    rintro e w' ⟨rfl, rfl⟩
    exact ⟨_, _, rfl, Lib.hid (.inr ⟨rfl, rfl, hq⟩), Lib.hid (Below.refl _ _)⟩

/-- One that nobody made, wherever the world has come since. -/
def NobH (w0 : World) (tb : Option Addr) (W : World) : Prop := Below w0.heap.size w0 W ∧ NoHeapB (.pointer tb) W
section
variable {w0 W : World} {tb : Option Addr} (h : NobH w0 tb W)
include h
theorem NobH.to {W' : World} (hb : Below W.heap.size W W') : NobH w0 tb W' := ⟨h.1.trans (hb.mono h.1.size), h.2.below hb⟩
theorem NobH.insert (s : ByteArray) : Calls Tryz.prog 40 #[.pointer tb, .string s] W fun e w' => e = .returned (.tuple #[.int .i64 0, .int .i64 1]) ∧ Hid (NobH w0 tb w') := (noheap_insert _ s W (h.2 W (Below.refl _ _))).mono fun _ _ ⟨he, hw⟩ => ⟨he, Lib.hid (hw ▸ h)⟩
theorem NobH.get (q : Int) : Calls Tryz.prog 31 #[.pointer tb, .int .i64 q] W fun e w' => e = .returned (.tuple #[.string ⟨#[]⟩, .bool false, .int .i64 1]) ∧ Hid (NobH w0 tb w') := (noheap_get _ q W h.2).mono fun _ _ ⟨he, hb⟩ => ⟨he, Lib.hid (h.to hb)⟩
theorem NobH.kill (q : Int) : Calls Tryz.prog 41 #[.pointer tb, .int .i64 q] W fun e w' => e = .returned (.int .i64 1) ∧ Hid (NobH w0 tb w') := (noheap_kill _ q W h.2).mono fun _ _ ⟨he, hb⟩ => ⟨he, Lib.hid (h.to hb)⟩
theorem NobH.free (q : Int) : Calls Tryz.prog 42 #[.pointer tb, .int .i64 q] W fun e w' => e = .returned (.int .i64 1) ∧ Hid (NobH w0 tb w') := (noheap_free _ q W h.2).mono fun _ _ ⟨he, hb⟩ => ⟨he, Lib.hid (h.to hb)⟩
theorem NobH.tids : Calls Tryz.prog 43 #[.pointer tb] W fun e w' => e = .returned (.slice none 0 0) ∧ Hid (NobH w0 tb w') := (noheap_tids _ W h.2).mono fun _ _ ⟨he, hb⟩ => ⟨he, Lib.hid (h.to hb)⟩
theorem NobH.dead : Calls Tryz.prog 44 #[.pointer tb] W fun e w' => e = .returned (.slice none 0 0) ∧ Hid (NobH w0 tb w') := (noheap_dead _ W h.2).mono fun _ _ ⟨he, hb⟩ => ⟨he, Lib.hid (h.to hb)⟩
theorem NobH.pages : Calls Tryz.prog 32 #[.pointer tb] W fun e w' => e = .returned (.slice none 0 0) ∧ Hid (NobH w0 tb w') := (noheap_pages _ W (h.2 W (Below.refl _ _))).mono fun _ _ ⟨he, hw⟩ => ⟨he, Lib.hid (hw ▸ h)⟩
end

/-- The two of the law's list. -/
theorem nobh_rows {w2 W0 : World} {L : Nat} (hW0 : W0 = (w2.alloc (.cells #[.pointer none, .pointer none, .int .i64 0] 92)).alloc (.cells #[.pointer none, .pointer (some ⟨w2.heap.size, 0, none⟩)] 70)) (hL : L = w2.heap.size + 1) :
    ∀ k, k < 2 → ∀ W, Below W0.heap.size W0 W → ∃ t, W.cell? ⟨L, k, none⟩ = some (.pointer t) ∧ NobH W0 t W := by
  intro k hk W hb
  have hz : W0.heap.size = w2.heap.size + 2 := by rw [hW0]; simp
  have h1 : W0.heap[L]? = some (.cells #[.pointer none, .pointer (some ⟨w2.heap.size, 0, none⟩)] 70) := by
    have := heap_alloc_new (w2.alloc (.cells #[.pointer none, .pointer none, .int .i64 0] 92)) (.cells #[.pointer none, .pointer (some ⟨w2.heap.size, 0, none⟩)] 70)
    rw [← hW0] at this
    rw [hL]; simpa using this
  have h0 : W0.heap[w2.heap.size]? = some (.cells #[.pointer none, .pointer none, .int .i64 0] 92) := by
    have h := heap_alloc_new w2 (.cells #[.pointer none, .pointer none, .int .i64 0] 92)
    rw [hW0, heap_alloc_old _ _ (by simp)]; exact h
  have hc : ∀ (v : Value), (#[Value.pointer none, .pointer (some ⟨w2.heap.size, 0, none⟩)])[k]? = some v → W.cell? ⟨L, k, none⟩ = some v := fun v hv => by
    exact (hb.cell (show L < W0.heap.size by omega)).trans (by rw [Lib.cell_of_heap h1]; exact hv)
  rcases (by omega : k = 0 ∨ k = 1) with rfl | rfl
  · exact ⟨_, hc _ rfl, hb, noheapB_nil W⟩
  · exact ⟨_, hc _ rfl, hb, (noheapB_zero _ W0 h0).below hb⟩

set_option maxHeartbeats 3200000 in
theorem heapNobody_walk (n : Int) (s : ByteArray) (w : World) (hT : Tab w) :
    Calls Tryz.prog 8 #[.int .i64 n, .string s] w fun e w' => e = .returned (.bool true) ∧ Below w.heap.size w w' := by
  have HT := Lib.hid hT
  have HBG := Lib.hid (begun_ok w hT)
  clear hT
  go_enter Tryz.func8, Tryz.ntmps8
  go_wp2_with fail
  refine (hp_nil 3 w ⟨by omega, by omega⟩).mono ?_
  rintro e w1 ⟨rfl, hw⟩
  subst w1
  go_wp2_with fail
  refine HBG.out.mono ?_
  rintro e w1 ⟨c, S, rfl, hf, hb1⟩
  have HB1 := Lib.hid hb1
  have HNA := Lib.hid (hpnew_any hf.1 n)
  clear HBG hf hb1
  go_wp2_with fail
  refine HNA.out.mono ?_
  rintro e w2 ⟨v, f, rfl, HV, hb2⟩
  have HB2 := Lib.hid (HB1.out.trans (hb2.out.mono HB1.out.size))
  clear HNA HB1 hb2
  go_upto_region 6 with fail
  go_cut [70] from 47 to 70 (fun b wx => b = .bool false ∧ wx = w2)
  case first =>
    rcases HV.out with ⟨tb, rfl, rfl, g1, g2⟩ | ⟨rfl, rfl, g⟩
    · clear HV
      go_wp2_with fail
      go_meet
      exact ⟨by first | rfl | trivial, by first | rfl | trivial⟩
    · clear HV
      by_cases g1 : 0 ≤ n
      · have g2 : ¬ n < 16 := fun h => g ⟨g1, h⟩
        clear g
        go_wp2_with fail
        go_meet
        exact ⟨by first | rfl | trivial, by first | rfl | trivial⟩
      · clear g
        go_wp2_with fail
        go_meet
        exact ⟨by first | rfl | trivial, by first | rfl | trivial⟩
  case rest =>
  obtain ⟨rfl, hwc⟩ := hcut
  obtain rfl : w2 = wc := hwc.symm
  clear HV
  obtain ⟨W0, hW0⟩ : ∃ W0, W0 = (w2.alloc (.cells #[.pointer none, .pointer none, .int .i64 0] 92)).alloc (.cells #[.pointer none, .pointer (some ⟨w2.heap.size, 0, none⟩)] 70) := ⟨_, rfl⟩
  obtain ⟨L, hL⟩ : ∃ L, L = w2.heap.size + 1 := ⟨_, rfl⟩
  have HB0 : Hid (Below w.heap.size w W0) := Lib.hid (by rw [hW0]; exact (HB2.out.alloc HB2.out.size _).alloc (by simp; have := HB2.out.size; omega) _)
  have HROW := Lib.hid (nobh_rows hW0 hL)
  clear HB2
  go_wp2
  rw [← hW0, ← hL]
  clear hW0 hL
  go_loopw [14] (fun i wr => ∃ k : Nat, k ≤ 2 ∧ i = .int .i64 k ∧ Hid (Below W0.heap.size W0 wr)) (fun i _ => 2 - (intOf i).toNat)
  case atStart => exact ⟨0, by omega, rfl, Lib.hid (Below.refl _ _)⟩
  case round =>
    obtain ⟨k, hk, rfl, HB⟩ := hrel
    by_cases hkn : k < 2
    · obtain ⟨t, hc, hn⟩ := HROW.out k hkn wr HB.out
      have f1 : (k : Int) < 2 := by omega
      have HN := Lib.hid hn
      clear HROW HB HB0 hn
      go_wp2_with fail
      refine (HN.out.insert s).mono ?_
      rintro e w3 ⟨rfl, HN3⟩
      clear HN hc
      go_wp2_with fail
      refine (HN3.out.get n).mono ?_
      rintro e w4 ⟨rfl, HN4⟩
      clear HN3
      go_wp2_with fail
      refine (HN4.out.kill n).mono ?_
      rintro e w5 ⟨rfl, HN5⟩
      clear HN4
      go_wp2_with fail
      refine (HN5.out.free n).mono ?_
      rintro e w6 ⟨rfl, HN6⟩
      clear HN5
      go_wp2_with fail
      refine HN6.out.tids.mono ?_
      rintro e w7 ⟨rfl, HN7⟩
      clear HN6
      go_wp2_with fail
      refine HN7.out.dead.mono ?_
      rintro e w8 ⟨rfl, HN8⟩
      clear HN7
      go_wp2_with fail
      refine HN8.out.pages.mono ?_
      rintro e w9 ⟨rfl, HN9⟩
      clear HN8
      have HB8 := Lib.hid HN9.out.1
      clear HN9
      go_wp2
      go_roundw
      case rel => exact ⟨k + 1, by omega, by go_num, HB8⟩
      case measure => simp [intOf]; omega
    · have f1 : ¬ (k : Int) < 2 := by omega
      have hbw := HB0.out.trans (HB.out.mono HB0.out.size)
      have HBW := Lib.hid hbw
      have HAW := Lib.hid (awake_any wr (HT.out.below hbw HT.out.1))
      clear hbw HROW HB HB0
      go_wp2_with fail
      refine HAW.out.mono ?_
      rintro e w3 ⟨rfl, hb⟩
      have HE := Lib.hid (HBW.out.trans (hb.mono HBW.out.size))
      clear HAW hb
      go_wp2
      go_ret
      exact ⟨rfl, HE.out⟩
end Go.Proofs.YtjhdfpchoepkaaaGreatDoor

/- HeapNobody: for every number and every string, the law answers true, and each argument reads afterwards as it read before. Conditions: the package variable that the row lists starts as the program's text lays it (the card ties it). -/
set_option maxRecDepth 100000
namespace Go.Proofs.YtjhdfpchoepkaaaGreatDoor
open Go Go.ChangeShapes Go.WideShapes Go.ChangeAt Go.RowKit
open Go.ChangeMaps (open_string shut_string)

theorem heapNobody_met (os : Os) (args : Array Value) : laidMetH Tryz.prog listed ((World.doorLaid Tryz.prog 4000 os).forCall (fun _ _ => 0) ⟨#[], args, []⟩).memory :=
  laidMetH_of_parts3 (fuel := 8) (laidMet_of_run' 8 (by kernel_rfl) (by kernel_rfl)) (by kernel_rfl) (by kernel_rfl)

set_option maxHeartbeats 1600000 in
theorem heapNobody_lifted (os : Os) (started : os.Started) (H : Type) (enc : TypeId × Value → H) :
    ReturnsInHanded {} Tryz.checked os 8 .any (fun w args => (Rows.heapNobodySpec.pre enc Tryz.prog Tryz.f8 [] false w args ∧ laidMetH Tryz.prog listed w) ∧ sizedMet enc Tryz.prog Tryz.f8 (OpenSpec.ofChange Rows.heapNobodySpec) false w args)
      (Rows.heapNobodySpec.post enc Tryz.prog Tryz.f8 false true false false) := by
  refine returnsInHanded_of_change_and (C := Tryz.checked) (X := fun w _ => laidMetH Tryz.prog listed w) (fun _ _ _ hh h => h.of_heap hh) ownS started (by kernel_rfl) Tryz.func8
    (ChangeSpec.witness_shaped (enc := enc) (C := Tryz.checked) (os := os) (X := fun w _ => laidMetH Tryz.prog listed w) false (World.doorLaid Tryz.prog 4000 os) #[.int .i64 0, .string ⟨#[]⟩] 8 rfl (World.shaped_of_RefB (by kernel_rfl) (by kernel_rfl)) (by kernel_rfl) (by kernel_rfl) (by kernel_rfl) (heapNobody_met os _)) ?_
  intro W base args ds gs before hval0 hW _ hsz0 hL _
  have hval : ∀ (j : Nat) t v, Tryz.f8.params[j]? = some t → args[j]? = some v → Value.okWide Tryz.prog W .any base t v := hval0
  have hsz : (DataW.weightsEach Tryz.prog (Tryz.f8.params.toList ++ Rows.heapNobodySpec.plain.varTypes Tryz.prog) (ds ++ gs)).all (· ≤ reachBytes) = true := hsz0
  have hW' := hW
  obtain ⟨p, q, hA0, hV, rfl, hfz, hnd⟩ := hW
  have hA : DataW.TrodAll enc Tryz.prog W 0 (fun _ => true) true Tryz.f8.params.toList args.toList ds p := hA0
  rw [Tryz.params8] at hA hval hsz
  obtain ⟨v0, v1, d0, d1, p0, p1, rfl, rfl, rfl, h0, h1⟩ := trodAll_two hA
  obtain ⟨rfl, rfl⟩ := trodVars_none hV
  obtain ⟨a, rfl, rfl, rfl, wa⟩ := open_int Tryz.underlying3 (hval 0 3 v0 rfl rfl) h0
  obtain ⟨s1, rfl, rfl, rfl, hs1⟩ := open_string Tryz.underlying9 (hval 1 9 v1 rfl rfl) h1
  clear hA0 hval0 hsz0
  simp only [List.append_nil] at hW'
  refine (heapNobody_walk a s1 W (laid_of hL)).mono fun e W' ⟨he, hb⟩ => ?_
  subst he
  refine ⟨_, rfl, _, _, _, [], [], [], hW', ?_, ?_, ?_, hb.frame _, fun h => by cases h⟩
  · exact trodAll_mk1 (shut_bool Tryz.underlying4 _)
  · exact trodAll_mk2 (shut_int Tryz.underlying3 wa) (shut_string Tryz.underlying9 hs1)
  · rfl

theorem heapNobody_said : Rows.HeapNobodySaid :=
  OpenClaim.holds_of_wide 8 Tryz.f8 rfl rfl rfl rfl rfl rfl rfl ⟨rfl, rfl, rfl, rfl, rfl⟩ rfl rfl rfl rfl rfl (by kernel_rfl) Tryz.func8 (by kernel_rfl)
    (of_decide_eq_true (by kernel_rfl)) (by unfold Func.isWrapper; rw [if_neg (of_decide_eq_false (by kernel_rfl))]; exact ⟨rfl, rfl⟩)
    (fun os started H enc _ => heapNobody_lifted os started H enc)

theorem heapNobody_holds : Rows.HeapNobodyCardSaid :=
  Claim7.holds_tied_plain_at .later [] [.data] true (true, "63e338a3631e277fdbf87d39920ea12ee42c98963aada10cc5d66bf97678c9b1") false
    heapNobody_said (fun _ h => by cases h) (by kernel_rfl) (fun _ h => by cases h) heapNobody_row_tie rfl ⟨rfl, rfl⟩ (by kernel_rfl) rfl
    (fun f fn hf hfn => by
      obtain rfl : f = 8 := Option.some.inj ((show Tryz.prog.funcNamed "vestibule/vestibulelaw07.HeapNobody" = some 8 by kernel_rfl).symm.trans hf) |>.symm
      obtain rfl : fn = Tryz.f8 := (Option.some.inj (Tryz.func8.symm.trans hfn)).symm
      exact ⟨by kernel_rfl, fun j t ht => by
        rw [Tryz.params8] at ht
        have hm : t ∈ [3, 9] := List.mem_of_getElem? (by simpa using ht)
        have hall : ∀ t ∈ [3, 9], Tryz.prog.wantsStandIn t = false := by
          intro t ht
          simp only [List.mem_cons, List.not_mem_nil, or_false] at ht
          rcases ht with rfl | rfl <;> kernel_rfl
        exact hall t hm⟩)
    (by kernel_rfl)
#print axioms heapNobody_holds
end Go.Proofs.YtjhdfpchoepkaaaGreatDoor

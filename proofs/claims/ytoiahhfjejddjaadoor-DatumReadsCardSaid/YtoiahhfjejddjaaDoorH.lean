/- The contracts of printTo and Print: for every datum; other memory stands. -/
import Derived.Test.YtoiahhfjejddjaaDoorG
set_option maxRecDepth 100000
namespace Go.Proofs.YtoiahhfjejddjaaDoor
open Go Go.RowKit

/-- Each number of the items is an int. -/
def AllI (xs : List It) : Prop := ∀ x ∈ xs, I64 x.n

set_option maxHeartbeats 3200000 in
theorem printTo_any {F : Nat} {p : Value} {b B : Nat} {I : List UInt8 → World → Prop} (P : Hid (PutterS F p b B I)) (l : List UInt8) (k n : Int) (s : ByteArray) (a : Option Addr) (xs : List It) (lc : Nat) (w : World) (hL : Hid (Laid w)) (hS : SlB B w a xs) (hI : Hid (I l w)) (hok : dOk k n s xs = true) (hn : Hid (I64 n)) (hns : Hid (AllI xs)) (hM : l.length ≤ 100) (h6 : 6 ≤ B) (hB : B ≤ w.heap.size) :
    Calls Tryd.prog 40 #[.agg #[.int .i64 k, .int .i64 n, .string s, .slice a xs.length lc], .func (.func F) #[] #[p]] w fun e w' => e = .returned (.tuple #[]) ∧ Fed I b B (l ++ datT k n s xs) w w' := by
  by_cases hk : k = 3
  · subst hk
    rw [show dOk 3 n s xs = listOk n s xs from by simp [dOk]] at hok
    obtain ⟨_, _, hlen, hall⟩ := listOk_parts hok
    have HA := Lib.hid hall; clear hall hok
    have HS := Lib.hid hS; clear hS
    have hen := P.out.enters
    have hlow := P.out.low _ _ hI.out
    have hsix := hL.out.six
    obtain ⟨ll, hll⟩ : ∃ ll, ll = xs.length := ⟨_, rfl⟩
    rw [← hll] at hlen ⊢
    have HL := Lib.hid hll; clear hll
    go_enter Tryd.func40, Tryd.ntmps40
    go_wp2_with fail
    refine (P.out.put l _ [91] (P.out.alloc _ hI.out) (by omega) (by simp) (by simp; omega)).mono ?_
    rintro e w1 ⟨rfl, hf⟩
    have hbx := box_heap hf.2.2 (new_heap _ _) (by omega)
    obtain ⟨c0, c1, c2, c3⟩ := box_heap_cells hbx
    have hz1 := hf.2.1.size
    simp at hz1
    have HF := Lib.hid (Fed.al hB _ hf); clear hf hbx
    go_wp2
    go_loopw [43] (fun i wr => ∃ j : Nat, j ≤ ll ∧ i = .int .i64 j ∧ Fed I b B (l ++ [91] ++ commaT (xs.take j)) w wr) (fun i _ => ll - (intOf i).toNat)
    case atStart => exact ⟨0, Nat.zero_le _, rfl, by simpa [commaT] using HF.out⟩
    case round =>
      obtain ⟨j, hj, rfl, hb⟩ := hrel
      have hwr := hb.2.1.size
      have HB := Lib.hid hb; clear hb
      by_cases hlt : j < ll
      · have hlt' : j < xs.length := by rw [← HL.out]; exact hlt
        obtain ⟨b', off, rfl, hbw, hc⟩ := (HS.out.below HB.out.2.1).at hlt'
        obtain ⟨e0, e1, e2, e3⟩ := hc j hlt'
        clear hc
        have hokj : (xs[j]'hlt').ok = true := HA.out _ (List.getElem_mem _)
        obtain ⟨hkj, hsj⟩ := item_kind hokj
        have HK := Lib.hid hkj; clear hokj hkj
        have HN : Hid (I64 (xs[j]'hlt').n) := Lib.hid (hns.out _ (List.getElem_mem _))
        have hlj : (commaT (xs.take j)).length ≤ 99 * j := by
          have := commaT_length (xs.take j) (fun x hx => ⟨HA.out x (List.mem_of_mem_take hx), hns.out x (List.mem_of_mem_take hx)⟩)
          have := List.length_take_le j xs
          omega
        by_cases hj0 : 0 < j
        · go_wp2_with fail
          refine (P.out.put _ _ [44] (P.out.alloc _ HB.out.1) (by simp only [List.length_append, List.length_singleton]; omega) (by simp) (by simp; omega)).mono ?_
          rintro e w2 ⟨rfl, hf⟩
          have hxb := box_heap hf.2.2 (new_heap _ _) (by omega)
          obtain ⟨x0, x1, x2, x3⟩ := box_heap_cells hxb
          have hz2 := hf.2.1.size
          simp at hz2
          have HF2 := Lib.hid (Fed.al (by omega) _ hf); clear hf hxb
          go_wp2_with fail
          refine (printItem_any P _ _ _ _ _ _ _ _ (Lib.hid (hL.out.below (HB.out.2.1.trans HF2.out.2.1) h6)) (Lib.hid HF2.out.1) HK.out HN (by simp only [List.length_append, List.length_singleton]; omega) (by omega) (by omega)).mono ?_
          rintro e w3 ⟨rfl, hf⟩
          have HF3 := Lib.hid hf; clear hf
          go_wp2
          go_roundw
          case rel =>
            refine ⟨j + 1, by omega, by go_num, ?_⟩
            have := HB.out.trans (HF2.out.trans HF3.out)
            have hne : ¬ xs.take j = [] := by
              intro e
              have h := congrArg List.length e
              rw [List.length_take] at h
              simp only [List.length_nil] at h
              have := HL.out
              omega
            rw [List.take_succ_eq_append_getElem hlt', commaT_snoc, if_neg hne]
            simpa using this
          case measure => simp [intOf]; omega
        · obtain rfl : j = 0 := by omega
          simp only [Nat.zero_mul, Nat.add_zero] at e0 e1 e2 e3
          go_wp2_with fail
          refine (printItem_any P _ _ _ _ _ _ _ _ (Lib.hid (hL.out.below (HB.out.2.1.alloc (by omega) _) h6)) (Lib.hid (P.out.alloc _ HB.out.1)) HK.out HN (by simp only [List.length_append, List.length_singleton]; omega) (by omega) (by simp; omega)).mono ?_
          rintro e w3 ⟨rfl, hf⟩
          have HF3 := Lib.hid (Fed.al (by omega) _ hf); clear hf
          go_wp2
          go_roundw
          case rel =>
            refine ⟨1, by omega, by go_num, ?_⟩
            have := HB.out.trans HF3.out
            rw [show (1 : Nat) = 0 + 1 from rfl, List.take_succ_eq_append_getElem hlt', commaT_snoc]
            simpa [commaT] using this
          case measure => simp [intOf]; omega
      · have hlj : (commaT (xs.take j)).length ≤ 99 * j := by
          have := commaT_length (xs.take j) (fun x hx => ⟨HA.out x (List.mem_of_mem_take hx), hns.out x (List.mem_of_mem_take hx)⟩)
          have := List.length_take_le j xs
          omega
        go_wp2_with fail
        refine (P.out.put _ _ [93] HB.out.1 (by simp only [List.length_append, List.length_singleton]; omega) (by simp) (by omega)).mono ?_
        rintro e w3 ⟨rfl, hf⟩
        have HF3 := Lib.hid hf; clear hf
        go_wp2
        go_end0
        refine ⟨rfl, ?_⟩
        have := HB.out.trans HF3.out
        rw [List.take_of_length_le (by have := HL.out; omega)] at this
        simpa [datT] using this
  · have h1 : itemOk k n s xs.length = true := by simpa [dOk, hk] using hok
    obtain ⟨h2, h3⟩ := item_kind (x := ⟨k, n, s, a, xs.length, lc⟩) h1
    have := printItem_any P l k n s a xs.length lc w hL hI h2 hn (by omega) h3 hB
    simpa [datT, hk] using this

set_option maxHeartbeats 800000 in
theorem print_ok (k n : Int) (s : ByteArray) (a : Option Addr) (xs : List It) (lc : Nat) (w : World) (hL : Laid w) (hS : Sl w a xs) (h : dOk k n s xs = true) (hn : I64 n) (hns : AllI xs) :
    Calls Tryd.prog 19 #[.agg #[.int .i64 k, .int .i64 n, .string s, .slice a xs.length lc]] w fun e w' => e = .returned (.tuple #[.string ⟨(datT k n s xs).toArray⟩, .int .i64 0]) ∧ Below w.heap.size w w' := by
  have HS := Lib.hid hS; clear hS
  have HF := Lib.hid h; clear h
  have HLD := Lib.hid hL; clear hL
  have HN := Lib.hid hn; clear hn
  have HNS := Lib.hid hns; clear hns
  have hsix := HLD.out.six
  obtain ⟨l, hl⟩ : ∃ l, l = datT k n s xs := ⟨_, rfl⟩
  rw [← hl]
  have HL := Lib.hid hl; clear hl
  go_enter Tryd.func19, Tryd.ntmps19
  go_wp2_with fail
  refine (check_ok _ _ _ _ _ _ _ (HS.out.below ((Below.refl _ _).alloc (Nat.le_refl _) _) (Nat.le_refl _)) HF.out).mono ?_
  rintro e w1 ⟨rfl, hb1⟩
  obtain ⟨c0, c1, c2, c3⟩ := box_cells (by simpa using hb1)
  have hz1 : w.heap.size < w1.heap.size := by have := hb1.size; simp at this; omega
  go_wp2_with fail
  refine (printTo_any (Lib.hid (putterS_builder w1.heap.size)) [] _ _ _ _ _ _ _ ?_ ?_ (Lib.hid (Lib.IsBuilderF.of (Lib.fresh_isBuilder 54 5 w1))) HF.out HN HNS (by simp) (by omega) (by simp)).mono ?_
  · exact Lib.hid (HLD.out.below ((below_al _ hb1).trans (((Below.refl _ _).alloc (Nat.le_refl _) _).mono (by omega))) hsix)
  · exact ((HS.out.below ((Below.refl _ _).alloc (Nat.le_refl _) _) (Nat.le_refl _)).below hb1 (Nat.le_refl _)).slB.below ((Below.refl _ _).alloc (Nat.le_refl _) _)
  rintro e w2 ⟨rfl, hf⟩
  have hz2 := hf.2.1.size
  simp at hz2
  have HF2 := Lib.hid hf; clear hf
  go_wp2_with fail
  refine (Tryd.Builder_String_any_k w1.heap.size w1.heap.size _ _ HF2.out.1 (by omega)).mono ?_
  rintro e w3 ⟨rfl, h3, hb3, hk3⟩
  go_wp2
  go_ret2
  refine ⟨by rw [HL.out]; rfl, ?_⟩
  exact below_then (below_al _ hb1) (Nat.le_refl _) (((Below.refl _ _).alloc (Nat.le_refl _) _).trans (HF2.out.2.1.trans hb3))

set_option maxHeartbeats 400000 in
theorem print_no (k n : Int) (s : ByteArray) (a : Option Addr) (xs : List It) (lc : Nat) (w : World) (hS : Sl w a xs) (h : dOk k n s xs = false) :
    Calls Tryd.prog 19 #[.agg #[.int .i64 k, .int .i64 n, .string s, .slice a xs.length lc]] w fun e w' => e = .returned (.tuple #[.string ⟨#[]⟩, .int .i64 11]) ∧ Below w.heap.size w w' := by
  have HS := Lib.hid hS; clear hS
  have HF := Lib.hid h; clear h
  go_enter Tryd.func19, Tryd.ntmps19
  go_wp2_with fail
  refine (check_no _ _ _ _ _ _ _ (HS.out.below ((Below.refl _ _).alloc (Nat.le_refl _) _) (Nat.le_refl _)) HF.out).mono ?_
  rintro e w1 ⟨rfl, hb1⟩
  go_wp2
  go_ret2
  exact ⟨rfl, below_al _ hb1⟩
end Go.Proofs.YtoiahhfjejddjaaDoor

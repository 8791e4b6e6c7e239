/- The walk of DatumBack: for every datum and every string that came in it answers true; other memory stands. -/
import Derived.Test.YtoiahhfjejddjaaDoorW
import Derived.Test.YtoiahhfjejddjaaDoorN
import Derived.Test.YtoiahhfjejddjaaDoorSame
set_option maxRecDepth 100000
namespace Go.Proofs.YtoiahhfjejddjaaDoor
open Go Go.RowKit

theorem datB_small (k n : Int) (s : ByteArray) (xs : List It) (h : dOk k n s xs = true) : (datB k n s xs).length ≤ 600 := by
  by_cases hk : k = 3
  · rw [dOk, if_pos hk] at h
    obtain ⟨_, _, hlen, hall⟩ := listOk_parts h
    have := itemsB_length xs hall
    rw [datB, if_pos hk]
    simp only [List.length_cons]
    omega
  · obtain ⟨rfl, hok⟩ := items_none h hk
    have := itemB_length k n s
    have := (item_kind (x := ⟨k, n, s, none, 0, 0⟩) hok).2
    rw [datB, if_neg hk]
    have h3 : s.size ≤ 32 := this
    omega
theorem datT_small (k n : Int) (s : ByteArray) (xs : List It) (hn : I64 n) (hns : AllI xs) (h : dOk k n s xs = true) : (datT k n s xs).length ≤ 1000000 := by
  by_cases hk : k = 3
  · rw [dOk, if_pos hk] at h
    obtain ⟨_, _, hlen, hall⟩ := listOk_parts h
    have := commaT_length xs (fun x hx => ⟨hall x hx, hns x hx⟩)
    rw [datT, if_pos hk]
    simp only [List.length_cons, List.length_append, List.length_nil]
    omega
  · obtain ⟨rfl, hok⟩ := items_none h hk
    have := itemT_length k n s hn (item_kind (x := ⟨k, n, s, none, 0, 0⟩) hok).2
    rw [datT, if_neg hk]
    omega
theorem ll_zero {k n : Int} {s : ByteArray} {xs : List It} (h : dOk k n s xs = true) : xs.length ≤ 8 ∧ ∀ x ∈ xs, x.ll = 0 := by
  by_cases hk : k = 3
  · rw [dOk, if_pos hk] at h
    obtain ⟨_, _, hlen, hall⟩ := listOk_parts h
    refine ⟨by omega, fun x hx => ?_⟩
    have := itemOk_true (hall x hx)
    omega
  · obtain ⟨rfl, _⟩ := items_none h hk
    exact ⟨by simp, fun x hx => by simp at hx⟩
theorem cont_pair {xs ys : List It} (h : ys.map cont = xs.map cont) (hy : ∀ y ∈ ys, y.ll = 0) (hx : ∀ x ∈ xs, x.ll = 0) : xs.length = ys.length ∧ ∀ i (h : i < ys.length) (h' : i < xs.length), cont (ys[i]'h) = cont (xs[i]'h') ∧ (ys[i]'h).ll = 0 ∧ (xs[i]'h').ll = 0 := by
  have hl : ys.length = xs.length := by simpa using congrArg List.length h
  refine ⟨hl.symm, fun i h1 h2 => ⟨?_, hy _ (List.getElem_mem _), hx _ (List.getElem_mem _)⟩⟩
  have e : (ys.map cont)[i]'(by simpa using h1) = (xs.map cont)[i]'(by simpa using h2) := by simp only [h]
  simpa using e

set_option maxHeartbeats 1600000 in
theorem back_no (k n : Int) (s : ByteArray) (a : Option Addr) (xs : List It) (lc : Nat) (tail : ByteArray) (w : World) (hL : Laid w) (hS : Sl w a xs) (hok : dOk k n s xs = false) :
    Calls Tryd.prog 6 #[.agg #[.int .i64 k, .int .i64 n, .string s, .slice a xs.length lc], .string tail] w fun e w' => e = .returned (.bool true) ∧ Below w.heap.size w w' := by
  have hsix := hL.six
  have HL := Lib.hid hL; have HS := Lib.hid hS; have HF := Lib.hid hok
  clear hL hS hok
  go_enter Tryd.func6, Tryd.ntmps6
  go_wp2_with fail
  refine (bytes_no k n s a xs lc _ (HS.out.below ((Below.refl _ _).alloc (Nat.le_refl _) _) (Nat.le_refl _)) HF.out).mono ?_
  rintro r w1 ⟨rfl, hb1⟩
  have HB1 := Lib.hid hb1; clear hb1
  obtain ⟨c0, c1, c2, c3⟩ := box_cells (by simpa using HB1.out)
  go_wp2_with fail
  refine (print_no k n s a xs lc _ (HS.out.below (below_al _ HB1.out) (Nat.le_refl _)) HF.out).mono ?_
  rintro r w2 ⟨rfl, hb2⟩
  have HB2 := Lib.hid (below_then HB1.out (Nat.le_refl _) hb2); clear hb2 c0 c1 c2 c3
  obtain ⟨c0, c1, c2, c3⟩ := box_cells (by simpa using HB2.out)
  go_wp2_with fail
  refine (rcheck_no k n s a xs lc _ (HS.out.below (below_al _ HB2.out) (Nat.le_refl _)) HF.out).mono ?_
  rintro r w3 ⟨rfl, hb3⟩
  have HB3 := Lib.hid (below_then HB2.out (Nat.le_refl _) hb3); clear hb3 c0 c1 c2 c3
  go_wp2_with fail
  refine (awake_any _ (HL.out.below (below_al _ HB3.out) hsix)).mono ?_
  rintro r w4 ⟨rfl, hb4⟩
  go_wp2
  go_ret
  exact ⟨rfl, below_then (below_al _ HB3.out) (Nat.le_refl _) hb4⟩

set_option maxHeartbeats 3200000 in
theorem back_yes (k n : Int) (s : ByteArray) (a : Option Addr) (xs : List It) (lc : Nat) (tail : ByteArray) (w : World) (hL : Laid w) (hS : Sl w a xs) (hn : I64 n) (hns : AllI xs) (hz : tail.size ≤ 140737488351232) (hok : dOk k n s xs = true) :
    Calls Tryd.prog 6 #[.agg #[.int .i64 k, .int .i64 n, .string s, .slice a xs.length lc], .string tail] w fun e w' => e = .returned (.bool true) ∧ Below w.heap.size w w' := by
  have hsix := hL.six
  obtain ⟨h8, hll⟩ := ll_zero hok
  obtain ⟨l, hl⟩ : ∃ l, l = datB k n s xs := ⟨_, rfl⟩
  obtain ⟨m, hm⟩ : ∃ m, m = datT k n s xs := ⟨_, rfl⟩
  have hl6 : l.length ≤ 600 := by rw [hl]; exact datB_small k n s xs hok
  have hm6 : m.length ≤ 1000000 := by rw [hm]; exact datT_small k n s xs hn hns hok
  have HOF : Hid (ofF (l ++ tail.data.toList) = some ((k, n, s), xs.map cont, l.length)) := Lib.hid (by rw [hl]; exact ofF_back k n s xs _ hok hn hns)
  have hcat : ((⟨l.toArray⟩ : ByteArray) ++ tail).data.toList = l ++ tail.data.toList := by simp
  have hcz : ((⟨l.toArray⟩ : ByteArray) ++ tail).size = l.length + tail.size := by
    have e : (⟨l.toArray⟩ : ByteArray).size = l.length := by simp [ByteArray.size]
    rw [ByteArray.size_append, e]
  have HCAT := Lib.hid hcat; have HCZ := Lib.hid hcz
  have HB := Lib.hid (bytes_ok k n s a xs lc · · hok)
  rw [← hl] at HB
  have HP := Lib.hid (print_ok k n s a xs lc · · · hok hn hns)
  rw [← hm] at HP
  have HV := Lib.hid (show Valid k n s xs from ⟨hok, hn, hns⟩)
  have HM := Lib.hid hm; have HLL := Lib.hid hll
  have HL := Lib.hid hL; have HS := Lib.hid hS
  have HMZ : Hid ((⟨m.toArray⟩ : ByteArray).size ≤ 140737488355328) := Lib.hid (by
    have e : (⟨m.toArray⟩ : ByteArray).size = m.length := by simp [ByteArray.size]
    rw [e]
    omega)
  have hq1 : ¬ 9223372036854775807 < l.length + tail.size := by omega
  clear hL hS hok hl hm hn hns hcat hcz hll
  go_enter Tryd.func6, Tryd.ntmps6
  go_wp2_with fail
  refine (HB.out _ (HS.out.below ((Below.refl _ _).alloc (Nat.le_refl _) _) (Nat.le_refl _))).mono ?_
  rintro r w1 ⟨rfl, hb1⟩
  have HB1 := Lib.hid hb1; clear hb1
  obtain ⟨c0, c1, c2, c3⟩ := box_cells (by simpa using HB1.out)
  go_wp2_with fail
  refine (HP.out _ (HL.out.below (below_al _ HB1.out) hsix) (HS.out.below (below_al _ HB1.out) (Nat.le_refl _))).mono ?_
  rintro r w2 ⟨rfl, hb2⟩
  have HB2 := Lib.hid (below_then HB1.out (Nat.le_refl _) hb2); clear hb2 c0 c1 c2 c3
  go_wp2_with fail
  refine (of_any _ _ (by rw [HCZ.out]; omega)).mono ?_
  rw [HCAT.out]
  rintro r w3 ⟨hb3, ⟨hno, _⟩ | ⟨k', n', t', a', ys, lc', p, hof, rfl, hn', hfr, hy8, hsl⟩⟩
  · rw [HOF.out] at hno
    cases hno
  · rw [HOF.out] at hof
    injection hof with hof
    injection hof with e1 hof
    injection hof with e2 e3
    injection e1 with e1 e4
    injection e4 with e4 e5
    subst e1; subst e4; subst e5; subst e3
    have HB3 := Lib.hid (below_then HB2.out (Nat.le_refl _) hb3); clear hb3
    have HC3 := Lib.hid (cont_pair e2.symm (fun y hy => (hfr y hy).2) HLL.out)
    have HS3 := Lib.hid hsl
    clear e2 hn' hfr hsl
    go_wp2_with fail
    have HB3' := Lib.hid ((show Below (w.heap.size + 1) _ w3 from by simpa using HB3.out).alloc (by have := HB3.out.size; simp only [World.size_alloc] at this; omega) (.cells #[.int .i64 k, .int .i64 n, .string s, .slice a' ys.length lc'] 24))
    have hz3 := HB3.out.size
    simp only [World.size_alloc] at hz3
    refine (parse_any _ _ (HL.out.below (below_al _ (by simpa using HB3'.out)) hsix) HMZ.out).mono ?_
    rintro r w4 ⟨hb4, ⟨k2, n2, t2, a2, zs, lc2, rfl, hv2, hf2, hs2, hd2, hc2⟩ | ⟨_, hno⟩⟩
    · obtain ⟨rfl, rfl, rfl, hcc⟩ := hc2 k n s xs HV.out (by rw [← HM.out])
      have hz4 := hb4.size
      simp only [World.size_alloc] at hz4
      have HC4 := Lib.hid (cont_pair hcc (fun y hy => (hf2 y hy).2) HLL.out)
      have HS4 := Lib.hid hs2
      have h48 : zs.length ≤ 8 := by have := HC4.out.1; omega
      have HB4' := Lib.hid ((HB3'.out.trans (hb4.mono (by simp only [World.size_alloc]; omega))).alloc (by omega) (.cells #[.int .i64 k2, .int .i64 n2, .string t2, .slice a2 zs.length lc2] 24))
      have HA4 := Lib.hid (hb4.alloc (by simp only [World.size_alloc]; omega) (.cells #[.int .i64 k2, .int .i64 n2, .string t2, .slice a2 zs.length lc2] 24))
      have HSA := Lib.hid (((HS3.out.below ((Below.refl _ _).alloc (Nat.le_refl _) _) (Nat.le_refl _)).below hb4 (Nat.le_refl _)).below ((Below.refl w4.heap.size w4).alloc (Nat.le_refl _) (.cells #[.int .i64 k2, .int .i64 n2, .string t2, .slice a2 zs.length lc2] 24)) (Nat.le_refl _))
      have HSB := Lib.hid (HS4.out.below ((Below.refl w4.heap.size w4).alloc (Nat.le_refl _) (.cells #[.int .i64 k2, .int .i64 n2, .string t2, .slice a2 zs.length lc2] 24)) (Nat.le_refl _))
      clear hb4 hv2 hf2 hs2 hd2 hc2 hcc
      obtain ⟨c0, c1, c2, c3⟩ := box_cells HB4'.out
      obtain ⟨d0, d1, d2, d3⟩ := box_cells (w := w3) (by simpa using HA4.out)
      have hll4 : ((l.length : Int) == (l.length : Int)) = true := by simp
      go_wp2_with fail
      refine (same_yes k2 n2 t2 a' ys lc' a xs lc _ HSA.out (HS.out.below (below_al _ (by simpa using HB4'.out)) (Nat.le_refl _)) HC3.out.1 hy8 HC3.out.2).mono ?_
      rintro r w5 ⟨rfl, hb5⟩
      have HB5 := Lib.hid (below_then HB4'.out (by simp) hb5)
      obtain ⟨g0, g1, g2, g3⟩ := box_cells (w := w4) (by simpa using hb5)
      have HSB5 := Lib.hid (HSB.out.below hb5 (Nat.le_refl _))
      clear hb5 c0 c1 c2 c3 d0 d1 d2 d3
      obtain ⟨c0, c1, c2, c3⟩ := box_cells HB5.out
      go_wp2_with fail
      refine (same_yes k2 n2 t2 a2 zs lc2 a xs lc _ HSB5.out (HS.out.below (below_al _ (by simpa using HB5.out)) (Nat.le_refl _)) HC4.out.1 h48 HC4.out.2).mono ?_
      rintro r w6 ⟨rfl, hb6⟩
      have HB6 := Lib.hid (below_al _ (show Below (w.alloc _).heap.size (w.alloc (.cells #[.int .i64 k2, .int .i64 n2, .string t2, .slice a xs.length lc] 24)) w6 by rw [World.size_alloc]; exact below_then HB5.out (by simp) hb6))
      clear hb6
      go_wp2_with fail
      refine (awake_any _ (HL.out.below HB6.out hsix)).mono ?_
      rintro r w7 ⟨rfl, hb7⟩
      go_wp2
      go_ret
      exact ⟨rfl, below_then HB6.out (Nat.le_refl _) hb7⟩
    · exact absurd (by rw [← HM.out]) (hno k n s xs HV.out)

theorem back_law (k n : Int) (s : ByteArray) (a : Option Addr) (xs : List It) (lc : Nat) (tail : ByteArray) (w : World) (hL : Laid w) (hS : Sl w a xs) (hn : I64 n) (hns : AllI xs) (hz : tail.size ≤ 140737488351232) :
    Calls Tryd.prog 6 #[.agg #[.int .i64 k, .int .i64 n, .string s, .slice a xs.length lc], .string tail] w fun e w' => e = .returned (.bool true) ∧ Below w.heap.size w w' := by
  cases hok : dOk k n s xs
  · exact back_no k n s a xs lc tail w hL hS hok
  · exact back_yes k n s a xs lc tail w hL hS hn hns hz hok
end Go.Proofs.YtoiahhfjejddjaaDoor

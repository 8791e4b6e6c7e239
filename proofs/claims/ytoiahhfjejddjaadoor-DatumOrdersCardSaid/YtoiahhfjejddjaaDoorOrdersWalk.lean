/- The walk of DatumOrders: for every two data that came in it answers true; other memory stands. -/
import Derived.Test.YtoiahhfjejddjaaDoorP
import Derived.Test.YtoiahhfjejddjaaDoorN
import Derived.Deep.RegionHeld3
set_option maxRecDepth 100000
namespace Go.Proofs.YtoiahhfjejddjaaDoor
open Go Go.RowKit

theorem hash_two (k n : Int) (s : ByteArray) (xs : List It) : ∃ h e : Int, (∀ (a : Option Addr) (lc : Nat) (w : World), Sl w a xs → Calls Tryd.prog 12 #[.agg #[.int .i64 k, .int .i64 n, .string s, .slice a xs.length lc]] w fun r w' => r = .returned (.tuple #[.int .i64 h, .int .i64 e]) ∧ Below w.heap.size w w') ∧
    (∀ (a : Option Addr) (lc : Nat) (w : World), Sl w a xs → I64 n → AllI xs → Calls Tryd.prog 13 #[.agg #[.int .i64 k, .int .i64 n, .string s, .slice a xs.length lc]] w fun r w' => r = .returned (.tuple #[.int .i64 h, .int .i64 e]) ∧ Below w.heap.size w w') := by
  cases h : dOk k n s xs
  · exact ⟨0, 11, fun a lc w hS => hash_no k n s a xs lc w hS h, fun a lc w hS _ _ => rhash_no k n s a xs lc w hS h⟩
  · exact ⟨_, 0, fun a lc w hS => hash_ok k n s a xs lc w hS h, fun a lc w hS hn hns => rhash_ok k n s a xs lc w hS h hn hns (datB_length k n s xs h)⟩
theorem check_two (k n : Int) (s : ByteArray) (xs : List It) : ∃ e : Int, (∀ (a : Option Addr) (lc : Nat) (w : World), Sl w a xs → Calls Tryd.prog 14 #[.agg #[.int .i64 k, .int .i64 n, .string s, .slice a xs.length lc]] w fun r w' => r = .returned (.int .i64 e) ∧ Below w.heap.size w w') ∧
    (∀ (a : Option Addr) (lc : Nat) (w : World), Sl w a xs → Calls Tryd.prog 15 #[.agg #[.int .i64 k, .int .i64 n, .string s, .slice a xs.length lc]] w fun r w' => r = .returned (.int .i64 e) ∧ Below w.heap.size w w') := by
  cases h : dOk k n s xs
  · exact ⟨11, fun a lc w hS => check_no k n s a xs lc w hS h, fun a lc w hS => rcheck_no k n s a xs lc w hS h⟩
  · exact ⟨0, fun a lc w hS => check_ok k n s a xs lc w hS h, fun a lc w hS => rcheck_ok k n s a xs lc w hS h⟩

theorem alloc2' (w : World) (o1 o2 : Obj) : Below w.heap.size w ((w.alloc o1).alloc o2) := ((Below.refl _ _).alloc (Nat.le_refl _) _).alloc (by simp) _

/-- What is held of the first datum's box, and of all that was there before. -/
theorem held_step {w0 w1 w2 : World} {b : Nat} {v0 v1 v2 v3 : Value} (h : w1.cell? ⟨b, 0, none⟩ = some v0 ∧ w1.cell? ⟨b, 1, none⟩ = some v1 ∧ w1.cell? ⟨b, 2, none⟩ = some v2 ∧ w1.cell? ⟨b, 3, none⟩ = some v3 ∧ Below (b + 1) w0 w1 ∧ b < w1.heap.size) (hb : Below w1.heap.size w1 w2) :
    w2.cell? ⟨b, 0, none⟩ = some v0 ∧ w2.cell? ⟨b, 1, none⟩ = some v1 ∧ w2.cell? ⟨b, 2, none⟩ = some v2 ∧ w2.cell? ⟨b, 3, none⟩ = some v3 ∧ Below (b + 1) w0 w2 ∧ b < w2.heap.size := by
  obtain ⟨h0, h1, h2, h3, h4, h5⟩ := h
  refine ⟨(hb.cell (p := ⟨b, 0, none⟩) h5).trans h0, (hb.cell (p := ⟨b, 1, none⟩) h5).trans h1, (hb.cell (p := ⟨b, 2, none⟩) h5).trans h2, (hb.cell (p := ⟨b, 3, none⟩) h5).trans h3, h4.trans (hb.mono (by omega)), ?_⟩
  have := hb.size
  omega

set_option maxHeartbeats 3200000 in
theorem orders_any (k n : Int) (s : ByteArray) (a : Option Addr) (xs : List It) (lc : Nat) (k' n' : Int) (s' : ByteArray) (a' : Option Addr) (xs' : List It) (lc' : Nat) (w : World) (hL : Laid w) (hS : Sl w a xs) (hn : I64 n) (hns : AllI xs) (hS' : Sl w a' xs') (_ : I64 n') (_ : AllI xs') :
    Calls Tryd.prog 3 #[.agg #[.int .i64 k, .int .i64 n, .string s, .slice a xs.length lc], .agg #[.int .i64 k', .int .i64 n', .string s', .slice a' xs'.length lc']] w fun e w' => e = .returned (.bool true) ∧ Below w.heap.size w w' := by
  obtain ⟨c, er, hv⟩ : ∃ c er, cmpD k n s xs k' n' s' xs' = (c, er) := ⟨_, _, rfl⟩
  obtain ⟨h, he, hh1, hh2⟩ := hash_two k n s xs
  obtain ⟨ce, hc1, hc2⟩ := check_two k n s xs
  have HL := Lib.hid hL; have HS := Lib.hid hS; have HS' := Lib.hid hS'; have HV := Lib.hid hv; have HN := Lib.hid hn; have HNS := Lib.hid hns; have HH1 := Lib.hid hh1; have HH2 := Lib.hid hh2; have HC1 := Lib.hid hc1; have HC2 := Lib.hid hc2
  clear hL hS hS' hv hn hns hh1 hh2 hc1 hc2
  go_enter Tryd.func3, Tryd.ntmps3
  go_wp2_with fail
  refine (compare_any k n s a xs lc k' n' s' a' xs' lc' _ (HS.out.below (alloc2' _ _ _) (Nat.le_refl _)) (HS'.out.below (alloc2' _ _ _) (Nat.le_refl _))).mono ?_
  rw [HV.out]
  rintro e w1 ⟨rfl, hb1⟩
  have HB1 := Lib.hid hb1; clear hb1
  obtain ⟨⟨c0, c1, c2, c3⟩, d0, d1, d2, d3⟩ := box_cells2 (by simpa using HB1.out)
  go_wp2_with fail
  refine (rcompare_any k n s a xs lc k' n' s' a' xs' lc' _ (HS.out.below (below_al2 _ _ HB1.out) (Nat.le_refl _)) (HS'.out.below (below_al2 _ _ HB1.out) (Nat.le_refl _))).mono ?_
  rw [HV.out]
  rintro e w2 ⟨rfl, hb2⟩
  have HB2 := Lib.hid (below_then HB1.out (Nat.le_refl _) hb2); clear hb2 c0 c1 c2 c3 d0 d1 d2 d3
  obtain ⟨⟨c0, c1, c2, c3⟩, d0, d1, d2, d3⟩ := box_cells2 (by simpa using HB2.out)
  go_wp2_with fail
  refine (HH1.out a lc _ (HS.out.below (below_al2 _ _ HB2.out) (Nat.le_refl _))).mono ?_
  rintro e w3 ⟨rfl, hb3⟩
  have HB3 := Lib.hid (below_then HB2.out (Nat.le_refl _) hb3); clear hb3 c0 c1 c2 c3 d0 d1 d2 d3
  obtain ⟨⟨c0, c1, c2, c3⟩, d0, d1, d2, d3⟩ := box_cells2 (by simpa using HB3.out)
  go_wp2_with fail
  refine (HH2.out a lc _ (HS.out.below (below_al2 _ _ HB3.out) (Nat.le_refl _)) HN.out HNS.out).mono ?_
  rintro e w4 ⟨rfl, hb4⟩
  have HB4 := Lib.hid (below_then HB3.out (Nat.le_refl _) hb4); clear hb4 c0 c1 c2 c3 d0 d1 d2 d3
  obtain ⟨⟨c0, c1, c2, c3⟩, d0, d1, d2, d3⟩ := box_cells2 (by simpa using HB4.out)
  have hq : w.heap.size < w4.heap.size := by have := HB4.out.size; simp at this; omega
  obtain ⟨w0, hw0⟩ : ∃ w0, w0 = (w.alloc (.cells #[.int .i64 k, .int .i64 n, .string s, .slice a xs.length lc] 24)) := ⟨_, rfl⟩
  have hbel : Below (w.heap.size + 1) w0 w4 := by
    rw [hw0]
    exact ((Below.refl _ _).alloc (by simp) _).trans (HB4.out.mono (by simp))
  have HW0 : ∀ w', Below (w.heap.size + 1) w0 w' → Hid (Below w.heap.size w w') := fun w' hb => Lib.hid (below_al _ (by rw [hw0] at hb; simpa using hb))
  have HWW := Lib.hid HW0
  have HD1 : Hid (∀ w', Below (w.heap.size + 1) w0 w' → Calls Tryd.prog 14 #[.agg #[.int .i64 k, .int .i64 n, .string s, .slice a xs.length lc]] w' fun r w'' => r = .returned (.int .i64 ce) ∧ Below w'.heap.size w' w'') := Lib.hid fun w' hb => HC1.out a lc w' (HS.out.below (HWW.out _ hb).out (Nat.le_refl _))
  have HD2 : Hid (∀ w', Below (w.heap.size + 1) w0 w' → Calls Tryd.prog 15 #[.agg #[.int .i64 k, .int .i64 n, .string s, .slice a xs.length lc]] w' fun r w'' => r = .returned (.int .i64 ce) ∧ Below w'.heap.size w' w'') := Lib.hid fun w' hb => HC2.out a lc w' (HS.out.below (HWW.out _ hb).out (Nat.le_refl _))
  have HD3 : Hid (∀ w', Below (w.heap.size + 1) w0 w' → Calls Tryd.prog 16 #[] w' fun r w'' => r = .returned (.bool true) ∧ Below w'.heap.size w' w'') := Lib.hid fun w' hb => awake_any _ (HL.out.below (HWW.out _ hb).out HL.out.six)
  clear hw0 HW0 d0 d1 d2 d3
  go_wp2_with fail
  go_region_held3 (fun w' => w'.cell? ⟨w.heap.size, 0, none⟩ = some (.int .i64 k) ∧ w'.cell? ⟨w.heap.size, 1, none⟩ = some (.int .i64 n) ∧ w'.cell? ⟨w.heap.size, 2, none⟩ = some (.string s) ∧ w'.cell? ⟨w.heap.size, 3, none⟩ = some (.slice a xs.length lc) ∧ Below (w.heap.size + 1) w0 w' ∧ w.heap.size < w'.heap.size) (first | exact held_step ⟨c0, c1, c2, c3, hbel, hq⟩ (Below.refl _ _).drew | exact held_step ‹_ ∧ _› ‹Below _ _ _›)
    (first | (go_at_call 14; refine (HD1.out _ (by go_split_ands; assumption)).mono ?_; rintro e w' ⟨rfl, hb'⟩) | (go_at_call 15; refine (HD2.out _ (by go_split_ands; assumption)).mono ?_; rintro e w' ⟨rfl, hb'⟩) | (go_at_call 16; refine (HD3.out _ (by go_split_ands; assumption)).mono ?_; rintro e w' ⟨rfl, hb'⟩))
  all_goals go_wp2
  all_goals go_ret
  all_goals exact ⟨rfl, (HWW.out _ (by go_split_ands; assumption)).out⟩
end Go.Proofs.YtoiahhfjejddjaaDoor

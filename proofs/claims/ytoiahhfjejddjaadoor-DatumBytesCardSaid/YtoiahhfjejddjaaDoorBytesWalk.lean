/- The walk of DatumBytes: for every datum that came in it answers true; other memory stands. -/
import Derived.Test.YtoiahhfjejddjaaDoorQ
import Derived.Test.YtoiahhfjejddjaaDoorN
set_option maxRecDepth 100000
namespace Go.Proofs.YtoiahhfjejddjaaDoor
open Go Go.RowKit

theorem bytes_two (k n : Int) (s : ByteArray) (xs : List It) (hn : I64 n) (hns : AllI xs) : ∃ (b : ByteArray) (e : Int), (∀ (a : Option Addr) (lc : Nat) (w : World), Sl w a xs → Calls Tryd.prog 17 #[.agg #[.int .i64 k, .int .i64 n, .string s, .slice a xs.length lc]] w fun r w' => r = .returned (.tuple #[.string b, .int .i64 e]) ∧ Below w.heap.size w w') ∧
    (∀ (a : Option Addr) (lc : Nat) (w : World), Sl w a xs → Calls Tryd.prog 18 #[.agg #[.int .i64 k, .int .i64 n, .string s, .slice a xs.length lc]] w fun r w' => r = .returned (.tuple #[.string b, .int .i64 e]) ∧ Below w.heap.size w w') := by
  cases h : dOk k n s xs
  · exact ⟨_, 11, fun a lc w hS => bytes_no k n s a xs lc w hS h, fun a lc w hS => rbytes_no k n s a xs lc w hS h⟩
  · exact ⟨_, 0, fun a lc w hS => bytes_ok k n s a xs lc w hS h, fun a lc w hS => rbytes_ok k n s a xs lc w hS h hn hns⟩
theorem print_two (k n : Int) (s : ByteArray) (xs : List It) (hn : I64 n) (hns : AllI xs) : ∃ (b : ByteArray) (e : Int), (∀ (a : Option Addr) (lc : Nat) (w : World), Laid w → Sl w a xs → Calls Tryd.prog 19 #[.agg #[.int .i64 k, .int .i64 n, .string s, .slice a xs.length lc]] w fun r w' => r = .returned (.tuple #[.string b, .int .i64 e]) ∧ Below w.heap.size w w') ∧
    (∀ (a : Option Addr) (lc : Nat) (w : World), Laid w → Sl w a xs → Calls Tryd.prog 20 #[.agg #[.int .i64 k, .int .i64 n, .string s, .slice a xs.length lc]] w fun r w' => r = .returned (.tuple #[.string b, .int .i64 e]) ∧ Below w.heap.size w w') := by
  cases h : dOk k n s xs
  · exact ⟨_, 11, fun a lc w _ hS => print_no k n s a xs lc w hS h, fun a lc w _ hS => rprint_no k n s a xs lc w hS h⟩
  · exact ⟨_, 0, fun a lc w hL hS => print_ok k n s a xs lc w hL hS h hn hns, fun a lc w hL hS => rprint_ok k n s a xs lc w hL hS h hn hns⟩

set_option maxHeartbeats 1600000 in
theorem bytes_law (k n : Int) (s : ByteArray) (a : Option Addr) (xs : List It) (lc : Nat) (w : World) (hL : Laid w) (hS : Sl w a xs) (hn : I64 n) (hns : AllI xs) :
    Calls Tryd.prog 4 #[.agg #[.int .i64 k, .int .i64 n, .string s, .slice a xs.length lc]] w fun e w' => e = .returned (.bool true) ∧ Below w.heap.size w w' := by
  obtain ⟨b, e, h1, h2⟩ := bytes_two k n s xs hn hns
  obtain ⟨t, f, h3, h4⟩ := print_two k n s xs hn hns
  have hsix := hL.six
  have HL := Lib.hid hL; have HS := Lib.hid hS; have H1 := Lib.hid h1; have H2 := Lib.hid h2; have H3 := Lib.hid h3; have H4 := Lib.hid h4
  clear hL hS h1 h2 h3 h4 hn hns
  go_enter Tryd.func4, Tryd.ntmps4
  go_wp2_with fail
  refine (H1.out a lc _ (HS.out.below ((Below.refl _ _).alloc (Nat.le_refl _) _) (Nat.le_refl _))).mono ?_
  rintro r w1 ⟨rfl, hb1⟩
  have HB1 := Lib.hid hb1; clear hb1
  obtain ⟨c0, c1, c2, c3⟩ := box_cells (by simpa using HB1.out)
  go_wp2_with fail
  refine (H2.out a lc _ (HS.out.below (below_al _ HB1.out) (Nat.le_refl _))).mono ?_
  rintro r w2 ⟨rfl, hb2⟩
  have HB2 := Lib.hid (below_then HB1.out (Nat.le_refl _) hb2); clear hb2 c0 c1 c2 c3
  obtain ⟨c0, c1, c2, c3⟩ := box_cells (by simpa using HB2.out)
  go_wp2_with fail
  refine (H3.out a lc _ (HL.out.below (below_al _ HB2.out) hsix) (HS.out.below (below_al _ HB2.out) (Nat.le_refl _))).mono ?_
  rintro r w3 ⟨rfl, hb3⟩
  have HB3 := Lib.hid (below_then HB2.out (Nat.le_refl _) hb3); clear hb3 c0 c1 c2 c3
  obtain ⟨c0, c1, c2, c3⟩ := box_cells (by simpa using HB3.out)
  go_wp2_with fail
  refine (H4.out a lc _ (HL.out.below (below_al _ HB3.out) hsix) (HS.out.below (below_al _ HB3.out) (Nat.le_refl _))).mono ?_
  rintro r w4 ⟨rfl, hb4⟩
  have HB4 := Lib.hid (below_then HB3.out (Nat.le_refl _) hb4); clear hb4 c0 c1 c2 c3
  go_wp2_with fail
  refine (awake_any _ (HL.out.below (below_al _ HB4.out) hsix)).mono ?_
  rintro r w5 ⟨rfl, hb5⟩
  go_wp2
  go_ret
  exact ⟨rfl, below_then (below_al _ HB4.out) (Nat.le_refl _) hb5⟩
end Go.Proofs.YtoiahhfjejddjaaDoor

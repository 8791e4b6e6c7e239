/- A method that NewPlain did not give: each of its calls answers nothing. -/
import Derived.Test.YtnghhhmhinailaaRT
import Derived.Test.YtnghhhmhinailaaDU
set_option maxRecDepth 100000
namespace Go.Proofs.Ytnghhhmhinailaa.Dm
open Go Go.RowKit

/-- A pointer that is nil, or goes to a method whose own pointer is nil. -/
def NoPl (A : Option Addr) (w : World) : Prop := A = none ∨ ∃ b, A = some ⟨b, 0, none⟩ ∧ b < w.heap.size ∧ w.cell? ⟨b, 0, none⟩ = some (.pointer none)
theorem NoPl.below {A : Option Addr} {B : Nat} {w w' : World} (h : NoPl A w) (hb : Below B w w') (hB : ∀ b, A = some ⟨b, 0, none⟩ → b < B) : NoPl A w' := by
  rcases h with h | ⟨b, h1, h2, h3⟩
  · exact .inl h
  · exact .inr ⟨b, h1, Nat.lt_of_lt_of_le h2 hb.size, (hb.cell (p := ⟨b, 0, none⟩) (hB b h1)).trans h3⟩
theorem NoPl.grow {A : Option Addr} {w w' : World} (h : NoPl A w) (hb : Below w.heap.size w w') : NoPl A w' := by
  refine h.below hb (fun b hA => ?_)
  rcases h with h | ⟨b', h1, h2, -⟩
  · rw [h] at hA; cases hA
  · rw [h1] at hA; cases hA; exact h2
theorem given_nob {A : Option Addr} {w : World} (h : NoPl A w) : Calls Try.prog 27 #[.pointer A] w fun e w' => e = .returned (.bool false) ∧ w' = w := by
  rcases h with rfl | ⟨b, rfl, -, h3⟩
  · exact given_nil w
  · exact given_no b w h3

set_option maxHeartbeats 800000 in
theorem keyOf_nob (A : Option Addr) (k n : Int) (s : ByteArray) (a : Option Addr) (xl lc : Nat) (w : World) (h : NoPl A w) :
    Calls Try.prog 50 #[.pointer A, .agg #[.int .i64 k, .int .i64 n, .string s, .slice a xl lc]] w fun e w' => e = .returned (.tuple #[.string ⟨#[]⟩, .int .i64 1]) ∧ Below w.heap.size w w' := by
  have HG := Lib.hid (given_nob (h.grow ((Below.refl _ _).alloc (Nat.le_refl _) (.cells #[.int .i64 k, .int .i64 n, .string s, .slice a xl lc] 33))))
  clear h
  go_enter Try.func50, Try.ntmps50
  go_wp2_with (go_at_call 27; refine (HG.out).mono ?_; rintro e w' ⟨rfl, rfl⟩)
  go_ret2
  exact ⟨rfl, (Below.refl _ _).alloc (Nat.le_refl _) _⟩

set_option maxHeartbeats 1600000 in
theorem heldOf_nob (A : Option Addr) (k n : Int) (s : ByteArray) (a : Option Addr) (xl lc : Nat) (t : Int) (w : World) (h : NoPl A w) :
    Calls Try.prog 38 #[.pointer A, .agg #[.int .i64 k, .int .i64 n, .string s, .slice a xl lc, .int .i64 t]] w fun r w' => ∃ kk tt, r = .returned (.tuple #[.agg #[.string kk, .int .i64 tt], .int .i64 1]) ∧ Below w.heap.size w w' := by
  obtain ⟨W0, hW0⟩ : ∃ W0, W0 = (w.alloc (.cells #[.int .i64 k, .int .i64 n, .string s, .slice a xl lc, .int .i64 t] 35)).alloc (.cells #[.string ⟨#[]⟩, .int .i64 0] 80) := ⟨_, rfl⟩
  have hB0 : Below w.heap.size w W0 := by rw [hW0]; exact ((Below.refl _ _).alloc (Nat.le_refl _) _).alloc (by simp) _
  have HK := Lib.hid (keyOf_nob A k n s a xl lc W0 (h.grow hB0))
  have HB : Hid (∀ W, Below W0.heap.size W0 W → (W.cell? ⟨w.heap.size, 0, none⟩ = some (.int .i64 k) ∧ W.cell? ⟨w.heap.size, 1, none⟩ = some (.int .i64 n) ∧ W.cell? ⟨w.heap.size, 2, none⟩ = some (.string s) ∧ W.cell? ⟨w.heap.size, 3, none⟩ = some (.slice a xl lc) ∧ W.cell? ⟨w.heap.size, 4, none⟩ = some (.int .i64 t)) ∧
      (W.cell? ⟨w.heap.size + 1, 0, none⟩ = some (.string ⟨#[]⟩) ∧ W.cell? ⟨w.heap.size + 1, 1, none⟩ = some (.int .i64 0) ∧ W.frozen? ⟨w.heap.size + 1, 0, none⟩ = false ∧ W.frozen? ⟨w.heap.size + 1, 1, none⟩ = false) ∧ Below w.heap.size w W ∧ w.heap.size + 1 < W.heap.size) := Lib.hid (fun W hW => by
    have hs : w.heap.size + 2 ≤ W0.heap.size := by rw [hW0]; simp
    have hc : ∀ b o, b < w.heap.size + 2 → W.cell? ⟨b, o, none⟩ = W0.cell? ⟨b, o, none⟩ := fun b o hb => hW.cell (p := ⟨b, o, none⟩) (by show b < _; omega)
    have hf : ∀ b o, b < w.heap.size + 2 → W.frozen? ⟨b, o, none⟩ = W0.frozen? ⟨b, o, none⟩ := fun b o hb => hW.frozen (p := ⟨b, o, none⟩) (by show b < _; omega)
    refine ⟨⟨?_, ?_, ?_, ?_, ?_⟩, ⟨?_, ?_, ?_, ?_⟩, hB0.trans (hW.mono hB0.size), by have := hW.size; omega⟩
    · rw [hc _ _ (by omega), hW0]; simp
    · rw [hc _ _ (by omega), hW0]; simp
    · rw [hc _ _ (by omega), hW0]; simp
    · rw [hc _ _ (by omega), hW0]; simp
    · rw [hc _ _ (by omega), hW0]; simp
    · rw [hc _ _ (by omega), hW0]; simp
    · rw [hc _ _ (by omega), hW0]; simp
    · rw [hf _ _ (by omega), hW0]; simp
    · rw [hf _ _ (by omega), hW0]; simp)
  by_cases h0 : t < 0
  · have hd1 : decide (t < 0) = true := decide_eq_true h0
    suffices h9 : Calls Try.prog 38 #[.pointer A, .agg #[.int .i64 k, .int .i64 n, .string s, .slice a xl lc, .int .i64 t]] w (fun r w' => r = .returned (.tuple #[.agg #[.string ⟨#[]⟩, .int .i64 0], .int .i64 1]) ∧ Below w.heap.size w w') from h9.mono (fun r w' h => ⟨_, _, h.1, h.2⟩)
    clear hW0 HB HK hB0 h
    go_enter Try.func38, Try.ntmps38
    go_wp2
    refine bodyPost_ret (v := .tuple #[.agg #[.string ⟨#[]⟩, .int .i64 0], .int .i64 1]) (by simp [results, Try.results38, go_sem]) rfl ⟨rfl, ?_⟩
    first | exact ((Below.refl _ _).alloc (Nat.le_refl _) _).alloc (by simp) _ | exact (((((Below.refl _ _).alloc (Nat.le_refl _) _).alloc (by simp) _).setCell (p := ⟨w.heap.size + 1, 0, none⟩) (Nat.le_succ _) _).setCell (p := ⟨w.heap.size + 1, 1, none⟩) (Nat.le_succ _) _)
  · have hd1 : decide (t < 0) = false := decide_eq_false h0
    by_cases h1 : (16777216 : Int) ≤ t
    · have hd2 : decide ((16777216 : Int) ≤ t) = true := decide_eq_true h1
      suffices h9 : Calls Try.prog 38 #[.pointer A, .agg #[.int .i64 k, .int .i64 n, .string s, .slice a xl lc, .int .i64 t]] w (fun r w' => r = .returned (.tuple #[.agg #[.string ⟨#[]⟩, .int .i64 0], .int .i64 1]) ∧ Below w.heap.size w w') from h9.mono (fun r w' h => ⟨_, _, h.1, h.2⟩)
      clear hW0 HB HK hB0 h
      go_enter Try.func38, Try.ntmps38
      go_wp2
      refine bodyPost_ret (v := .tuple #[.agg #[.string ⟨#[]⟩, .int .i64 0], .int .i64 1]) (by simp [results, Try.results38, go_sem]) rfl ⟨rfl, ?_⟩
      first | exact ((Below.refl _ _).alloc (Nat.le_refl _) _).alloc (by simp) _ | exact (((((Below.refl _ _).alloc (Nat.le_refl _) _).alloc (by simp) _).setCell (p := ⟨w.heap.size + 1, 0, none⟩) (Nat.le_succ _) _).setCell (p := ⟨w.heap.size + 1, 1, none⟩) (Nat.le_succ _) _)
    · have hd2 : decide ((16777216 : Int) ≤ t) = false := decide_eq_false h1
      have HW0 := Lib.hid hW0
      suffices h9 : Calls Try.prog 38 #[.pointer A, .agg #[.int .i64 k, .int .i64 n, .string s, .slice a xl lc, .int .i64 t]] w (fun r w' => r = .returned (.tuple #[.agg #[.string ⟨#[]⟩, .int .i64 t], .int .i64 1]) ∧ Below w.heap.size w w') from h9.mono (fun r w' h => ⟨_, _, h.1, h.2⟩)
      clear hW0 hB0 h
      have e0 := HW0.out
      obtain ⟨⟨c0, c1, c2, c3, c4⟩, -, -, -⟩ := HB.out W0 (Below.refl _ _)
      go_enter Try.func38, Try.ntmps38
      go_wp2_with fail
      try rw [← e0]
      refine HK.out.mono ?_
      rintro r w2 ⟨rfl, hb2⟩
      obtain ⟨⟨d0, d1, d2, d3, d4⟩, ⟨f0, f1, f2, f3⟩, hbb, hlt⟩ := HB.out w2 hb2
      have HBB := Lib.hid hbb
      clear hb2 hbb c0 c1 c2 c3 c4 e0
      go_wp2
      refine bodyPost_ret (v := .tuple #[.agg #[.string ⟨#[]⟩, .int .i64 t], .int .i64 1]) (by simp [results, Try.results38, go_sem, f0, f1]) rfl ⟨rfl, ?_⟩
      exact (HBB.out.setCell (p := ⟨w.heap.size + 1, 0, none⟩) (Nat.le_succ _) _).setCell (p := ⟨w.heap.size + 1, 1, none⟩) (Nat.le_succ _) _

set_option maxHeartbeats 1600000 in
theorem ins_nob (A : Option Addr) (k n : Int) (s : ByteArray) (a : Option Addr) (xl lc : Nat) (t : Int) (w : World) (h : NoPl A w) :
    Calls Try.prog 24 #[.pointer A, .agg #[.int .i64 k, .int .i64 n, .string s, .slice a xl lc, .int .i64 t]] w fun r w' => r = .returned (.int .i64 1) ∧ Below w.heap.size w w' := by
  have HH : Hid (∀ W, Below w.heap.size w W → Calls Try.prog 38 #[.pointer A, .agg #[.int .i64 k, .int .i64 n, .string s, .slice a xl lc, .int .i64 t]] W fun r w' => ∃ kk tt, r = .returned (.tuple #[.agg #[.string kk, .int .i64 tt], .int .i64 1]) ∧ Below W.heap.size W w') := Lib.hid (fun W hW => heldOf_nob A k n s a xl lc t W (h.grow hW))
  clear h
  go_enter Try.func24, Try.ntmps24
  go_wp2_with fail
  refine (HH.out _ ((Below.refl _ _).alloc (Nat.le_refl _) _)).mono ?_
  rintro r w1 ⟨kk, tt, rfl, hb1⟩
  have HB1 : Hid (Below w.heap.size w w1) := Lib.hid (below_al _ hb1)
  clear hb1
  go_wp2
  go_quiet (fail)
  go_wp2
  go_ret
  exact ⟨rfl, (HB1.out.alloc HB1.out.size _).trans ⟨rfl, rfl, rfl, Nat.le_refl _, fun _ _ => rfl⟩⟩

set_option maxHeartbeats 1600000 in
theorem del_nob (A : Option Addr) (k n : Int) (s : ByteArray) (a : Option Addr) (xl lc : Nat) (t : Int) (w : World) (h : NoPl A w) :
    Calls Try.prog 109 #[.pointer A, .agg #[.int .i64 k, .int .i64 n, .string s, .slice a xl lc, .int .i64 t]] w fun r w' => r = .returned (.int .i64 1) ∧ Below w.heap.size w w' := by
  have HH : Hid (∀ W, Below w.heap.size w W → Calls Try.prog 38 #[.pointer A, .agg #[.int .i64 k, .int .i64 n, .string s, .slice a xl lc, .int .i64 t]] W fun r w' => ∃ kk tt, r = .returned (.tuple #[.agg #[.string kk, .int .i64 tt], .int .i64 1]) ∧ Below W.heap.size W w') := Lib.hid (fun W hW => heldOf_nob A k n s a xl lc t W (h.grow hW))
  clear h
  go_enter Try.func109, Try.ntmps109
  go_wp2_with fail
  refine (HH.out _ ((Below.refl _ _).alloc (Nat.le_refl _) _)).mono ?_
  rintro r w1 ⟨kk, tt, rfl, hb1⟩
  have HB1 : Hid (Below w.heap.size w w1) := Lib.hid (below_al _ hb1)
  clear hb1
  go_wp2
  go_quiet (fail)
  go_wp2
  go_ret
  exact ⟨rfl, (HB1.out.alloc HB1.out.size _).trans ⟨rfl, rfl, rfl, Nat.le_refl _, fun _ _ => rfl⟩⟩

set_option maxHeartbeats 800000 in
theorem find_nob (A : Option Addr) (k n : Int) (s : ByteArray) (a : Option Addr) (xl lc : Nat) (w : World) (h : NoPl A w) :
    Calls Try.prog 30 #[.pointer A, .agg #[.int .i64 k, .int .i64 n, .string s, .slice a xl lc]] w fun r w' => r = .returned (.tuple #[.slice none 0 0, .int .i64 1]) ∧ Below w.heap.size w w' := by
  have HK : Hid (∀ W, Below w.heap.size w W → Calls Try.prog 50 #[.pointer A, .agg #[.int .i64 k, .int .i64 n, .string s, .slice a xl lc]] W fun e w' => e = .returned (.tuple #[.string ⟨#[]⟩, .int .i64 1]) ∧ Below W.heap.size W w') :=
    Lib.hid (fun W hW => keyOf_nob A k n s a xl lc W (h.grow hW))
  clear h
  go_enter Try.func30, Try.ntmps30
  go_wp2_with fail
  refine (HK.out _ ((Below.refl _ _).alloc (Nat.le_refl _) _)).mono ?_
  rintro e w1 ⟨rfl, hb1⟩
  have HB1 : Hid (Below w.heap.size w w1) := Lib.hid (below_al _ hb1)
  clear hb1
  go_wp2
  go_ret2
  exact ⟨rfl, HB1.out.alloc HB1.out.size _⟩

set_option maxHeartbeats 400000 in
theorem entries_nob (A : Option Addr) (w : World) (h : NoPl A w) : Calls Try.prog 12 #[.pointer A] w fun r w' => r = .returned (.slice none 0 0) ∧ w' = w := by
  have HG := Lib.hid (given_nob h)
  clear h
  go_enter Try.func12, Try.ntmps12
  go_wp2_with (go_at_call 27; refine (HG.out).mono ?_; rintro e w' ⟨rfl, rfl⟩)
  go_ret
  exact ⟨rfl, rfl⟩
set_option maxHeartbeats 400000 in
theorem pages_nob (A : Option Addr) (w : World) : Calls Try.prog 14 #[.pointer A] w fun r w' => r = .returned (.slice none 0 0) ∧ w' = w := by
  go_enter Try.func14, Try.ntmps14
  go_wp2
  go_ret
  exact ⟨rfl, rfl⟩
set_option maxHeartbeats 400000 in
theorem check_nob (A : Option Addr) (w : World) (h : NoPl A w) : Calls Try.prog 108 #[.pointer A] w fun r w' => r = .returned (.bool false) ∧ w' = w := by
  have HG := Lib.hid (given_nob h)
  clear h
  go_enter Try.func108, Try.ntmps108
  go_wp2_with (go_at_call 27; refine (HG.out).mono ?_; rintro e w' ⟨rfl, rfl⟩)
  go_ret
  exact ⟨rfl, rfl⟩
set_option maxHeartbeats 400000 in
theorem drop_nob (A : Option Addr) (w : World) (h : NoPl A w) : Calls Try.prog 110 #[.pointer A] w fun r w' => r = .returned (.int .i64 1) ∧ w' = w := by
  have HG := Lib.hid (given_nob h)
  clear h
  go_enter Try.func110, Try.ntmps110
  go_wp2_with (go_at_call 27; refine (HG.out).mono ?_; rintro e w' ⟨rfl, rfl⟩)
  go_ret
  exact ⟨rfl, rfl⟩
set_option maxHeartbeats 400000 in
theorem name_nob (A : Option Addr) (w : World) (h : NoPl A w) : Calls Try.prog 23 #[.pointer A] w fun r w' => r = .returned (.string ⟨#[]⟩) ∧ w' = w := by
  have HG := Lib.hid (given_nob h)
  clear h
  go_enter Try.func23, Try.ntmps23
  go_wp2_with (go_at_call 27; refine (HG.out).mono ?_; rintro e w' ⟨rfl, rfl⟩)
  go_ret
  exact ⟨rfl, rfl⟩
set_option maxHeartbeats 400000 in
theorem range_nob (A : Option Addr) (w : World) (h : NoPl A w) : Calls Try.prog 16 #[.pointer A, .pointer none, .pointer none, .bool false] w fun r w' => r = .returned (.tuple #[.slice none 0 0, .int .i64 1]) ∧ w' = w := by
  have HG := Lib.hid (given_nob h)
  clear h
  go_enter Try.func16, Try.ntmps16
  go_wp2_with (go_at_call 27; refine (HG.out).mono ?_; rintro e w' ⟨rfl, rfl⟩)
  go_ret2
  exact ⟨rfl, rfl⟩

/-- Each call finds its function by the method's type. -/
theorem nobM (A : Option Addr) : NobM 23 (.pointer A) 24 109 30 12 14 108 110 := by
  refine ⟨fun W => ⟨?_, ?_, ?_, ?_, ?_, ?_, ?_⟩, fun W => ⟨?_, ?_, ?_, ?_, ?_, ?_, ?_⟩, fun args W => ⟨?_, ?_, ?_, ?_, ?_, ?_, ?_⟩⟩
  all_goals kernel_rfl

theorem nobody_pl (A : Option Addr) (k n : Int) (s : ByteArray) (ea : Option Addr) (xl lc : Nat) (t : Int) (w : World) (h : NoPl A w) :
    Calls Try.prog 22 #[.iface 23 (.pointer A), .agg #[.int .i64 k, .int .i64 n, .string s, .slice ea xl lc, .int .i64 t]] w fun r w' => r = .returned (.bool true) ∧ Below w.heap.size w w' := by
  refine nobody_any (nobM A) k n s ea xl lc t w ?_ ?_ ?_ ?_ ?_ ?_ ?_
  · exact fun W hW => find_nob A k n s ea xl lc W (h.grow hW)
  · exact fun W hW => ins_nob A k n s ea xl lc t W (h.grow hW)
  · exact fun W hW => del_nob A k n s ea xl lc t W (h.grow hW)
  · exact fun W hW => (entries_nob A W (h.grow hW)).mono (fun r w' h => ⟨h.1, by rw [h.2]; exact Below.refl _ _⟩)
  · exact fun W hW => (pages_nob A W).mono (fun r w' h => ⟨h.1, by rw [h.2]; exact Below.refl _ _⟩)
  · exact fun W hW => (check_nob A W (h.grow hW)).mono (fun r w' h => ⟨h.1, by rw [h.2]; exact Below.refl _ _⟩)
  · exact fun W hW => (drop_nob A W (h.grow hW)).mono (fun r w' h => ⟨h.1, by rw [h.2]; exact Below.refl _ _⟩)
end Go.Proofs.Ytnghhhmhinailaa.Dm

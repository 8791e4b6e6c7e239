/- An entry as it is held; Insert and Delete, whatever the rack does. -/
import Derived.Test.YtnnmigglcpkomaaRO
import Derived.Test.YtnnmigglcpkomaaDM
set_option maxRecDepth 100000
namespace Go.Proofs.Ytnnmigglcpkomaa.Dm
open Go Go.RowKit

/-- An entry as it is held. -/
def hOf (c : Et) : Hd := (⟨c.1.kb.toArray⟩, c.2)
theorem hOf_en (e : En) : hOf e.c = (keyS e.k e.n e.s e.xs, e.t) := by
  have h := e.kb_d
  unfold hOf keyS
  show ((⟨(e.d.kb).toArray⟩ : ByteArray), e.t) = _
  rw [h]

set_option maxHeartbeats 1600000 in
theorem heldOf_ok (P : Nat) (e : En) (w : World) (hP : w.cell? ⟨P, 0, none⟩ = some (.pointer (some ⟨P, 0, none⟩))) (hPl : P < w.heap.size) (hI : e.In w) (hm : mayE e.c = true) :
    Calls Try.prog 38 #[.pointer (some ⟨P, 0, none⟩), e.v] w fun r w' => r = .returned (.tuple #[hdV (hOf e.c), .int .i64 0]) ∧ Below w.heap.size w w' := by
  unfold mayE at hm
  rw [Bool.and_eq_true, decide_eq_true_eq, show e.c.1.ok = e.ok from e.ok_d] at hm
  rw [hOf_en]
  obtain ⟨⟨ht1, ht2⟩, hok⟩ := hm
  obtain ⟨k, n, s, a, xs, lc, t⟩ := e
  obtain ⟨W0, hW0⟩ : ∃ W0, W0 = (w.alloc (.cells #[.int .i64 k, .int .i64 n, .string s, .slice a xs.length lc, .int .i64 t] 35)).alloc (.cells #[.string ⟨#[]⟩, .int .i64 0] 80) := ⟨_, rfl⟩
  have hB0 : Below w.heap.size w W0 := by rw [hW0]; exact ((Below.refl _ _).alloc (Nat.le_refl _) _).alloc (by simp) _
  have HK : Hid (Calls Try.prog 50 #[.pointer (some ⟨P, 0, none⟩), .agg #[.int .i64 k, .int .i64 n, .string s, .slice a xs.length lc]] W0 fun e w' => e = .returned (.tuple #[.string (keyS k n s xs), .int .i64 0]) ∧ Below W0.heap.size W0 w') :=
    Lib.hid (keyOf_ok P k n s a xs lc W0 ((hB0.cell (p := ⟨P, 0, none⟩) hPl).trans hP) (Nat.lt_of_lt_of_le hPl hB0.size) (hI.sl.below hB0 (Nat.le_refl _)) hok)
  unfold En.v hdV
  simp only []
  have ht1 : 0 ≤ t := ht1
  have ht2 : t < 16777216 := ht2
  have HB : Hid (∀ W, Below W0.heap.size W0 W → (W.cell? ⟨w.heap.size, 0, none⟩ = some (.int .i64 k) ∧ W.cell? ⟨w.heap.size, 1, none⟩ = some (.int .i64 n) ∧ W.cell? ⟨w.heap.size, 2, none⟩ = some (.string s) ∧ W.cell? ⟨w.heap.size, 3, none⟩ = some (.slice a xs.length lc) ∧ W.cell? ⟨w.heap.size, 4, none⟩ = some (.int .i64 t)) ∧
      (W.cell? ⟨w.heap.size + 1, 0, none⟩ = some (.string ⟨#[]⟩) ∧ W.cell? ⟨w.heap.size + 1, 1, none⟩ = some (.int .i64 0) ∧ W.frozen? ⟨w.heap.size + 1, 0, none⟩ = false ∧ W.frozen? ⟨w.heap.size + 1, 1, none⟩ = false) ∧ Below w.heap.size w W ∧ w.heap.size + 1 < W.heap.size) := Lib.hid (fun W hW => by
    have hs : w.heap.size + 2 ≤ W0.heap.size := by rw [hW0]; simp
    have hc : ∀ b o, b < w.heap.size + 2 → W.cell? ⟨b, o, none⟩ = W0.cell? ⟨b, o, none⟩ := fun b o hb => hW.cell (p := ⟨b, o, none⟩) (by show b < _; omega)
    have hf : ∀ b o, b < w.heap.size + 2 → W.frozen? ⟨b, o, none⟩ = W0.frozen? ⟨b, o, none⟩ := fun b o hb => hW.frozen (p := ⟨b, o, none⟩) (by show b < _; omega)
    refine ⟨⟨?_, ?_, ?_, ?_, ?_⟩, ⟨?_, ?_, ?_, ?_⟩, hB0.trans (hW.mono hB0.size), by have := hW.size; omega⟩
    · rw [hc _ _ (by omega), hW0]; simp
    · rw [hc _ _ (by omega), hW0]; simp
    · rw [hc _ _ (by omega), hW0]; simp
    · rw [hc _ _ (by omega), hW0]; simp
    · rw [hc _ _ (by omega), hW0]; simp
    · rw [hc _ _ (by omega), hW0]; simp
    · rw [hc _ _ (by omega), hW0]; simp
    · rw [hf _ _ (by omega), hW0]; simp
    · rw [hf _ _ (by omega), hW0]; simp)
  obtain ⟨ll, hll⟩ : ∃ ll, ll = xs.length := ⟨_, rfl⟩
  obtain ⟨ky, hky⟩ : ∃ ky, ky = keyS k n s xs := ⟨_, rfl⟩
  rw [← hky] at HK ⊢
  rw [← hll] at HK HB ⊢ hW0
  have HW0 := Lib.hid hW0
  clear hI hok hll hky hW0 hB0
  have e0 := HW0.out
  obtain ⟨⟨c0, c1, c2, c3, c4⟩, -, -, -⟩ := HB.out W0 (Below.refl _ _)
  have hd1 : decide (t < 0) = false := decide_eq_false (by omega)
  have hd2 : decide ((16777216 : Int) ≤ t) = false := decide_eq_false (by omega)
  go_enter Try.func38, Try.ntmps38
  go_wp2_with fail
  try rw [← e0]
  refine HK.out.mono ?_
  rintro r w2 ⟨rfl, hb2⟩
  obtain ⟨⟨d0, d1, d2, d3, d4⟩, ⟨f0, f1, f2, f3⟩, hbb, hlt⟩ := HB.out w2 hb2
  have HBB := Lib.hid hbb
  clear hb2 hbb c0 c1 c2 c3 c4 e0
  go_wp2
  refine bodyPost_ret (v := .tuple #[.agg #[.string ky, .int .i64 t], .int .i64 0]) (by simp [results, Try.results38, go_sem, f0, f1]) rfl ⟨rfl, ?_⟩
  exact (HBB.out.setCell (p := ⟨w.heap.size + 1, 0, none⟩) (Nat.le_succ _) _).setCell (p := ⟨w.heap.size + 1, 1, none⟩) (Nat.le_succ _) _
set_option maxHeartbeats 1600000 in
theorem heldOf_key (P : Nat) (e : En) (w : World) (hP : w.cell? ⟨P, 0, none⟩ = some (.pointer (some ⟨P, 0, none⟩))) (hPl : P < w.heap.size) (hI : e.In w) (ht1 : 0 ≤ e.t) (ht2 : e.t < 16777216) (hok : e.ok = false) :
    Calls Try.prog 38 #[.pointer (some ⟨P, 0, none⟩), e.v] w fun r w' => r = .returned (.tuple #[.agg #[.string ⟨#[]⟩, .int .i64 e.t], .int .i64 1]) ∧ Below w.heap.size w w' := by
  obtain ⟨k, n, s, a, xs, lc, t⟩ := e
  obtain ⟨W0, hW0⟩ : ∃ W0, W0 = (w.alloc (.cells #[.int .i64 k, .int .i64 n, .string s, .slice a xs.length lc, .int .i64 t] 35)).alloc (.cells #[.string ⟨#[]⟩, .int .i64 0] 80) := ⟨_, rfl⟩
  have hB0 : Below w.heap.size w W0 := by rw [hW0]; exact ((Below.refl _ _).alloc (Nat.le_refl _) _).alloc (by simp) _
  have HK : Hid (Calls Try.prog 50 #[.pointer (some ⟨P, 0, none⟩), .agg #[.int .i64 k, .int .i64 n, .string s, .slice a xs.length lc]] W0 fun e w' => e = .returned (.tuple #[.string ⟨#[]⟩, .int .i64 1]) ∧ Below W0.heap.size W0 w') :=
    Lib.hid (keyOf_bad P k n s a xs lc W0 ((hB0.cell (p := ⟨P, 0, none⟩) hPl).trans hP) (Nat.lt_of_lt_of_le hPl hB0.size) (hI.sl.below hB0 (Nat.le_refl _)) hok)
  unfold En.v
  simp only []
  have ht1 : 0 ≤ t := ht1
  have ht2 : t < 16777216 := ht2
  have HB : Hid (∀ W, Below W0.heap.size W0 W → (W.cell? ⟨w.heap.size, 0, none⟩ = some (.int .i64 k) ∧ W.cell? ⟨w.heap.size, 1, none⟩ = some (.int .i64 n) ∧ W.cell? ⟨w.heap.size, 2, none⟩ = some (.string s) ∧ W.cell? ⟨w.heap.size, 3, none⟩ = some (.slice a xs.length lc) ∧ W.cell? ⟨w.heap.size, 4, none⟩ = some (.int .i64 t)) ∧
      (W.cell? ⟨w.heap.size + 1, 0, none⟩ = some (.string ⟨#[]⟩) ∧ W.cell? ⟨w.heap.size + 1, 1, none⟩ = some (.int .i64 0) ∧ W.frozen? ⟨w.heap.size + 1, 0, none⟩ = false ∧ W.frozen? ⟨w.heap.size + 1, 1, none⟩ = false) ∧ Below w.heap.size w W ∧ w.heap.size + 1 < W.heap.size) := Lib.hid (fun W hW => by
    have hs : w.heap.size + 2 ≤ W0.heap.size := by rw [hW0]; simp
    have hc : ∀ b o, b < w.heap.size + 2 → W.cell? ⟨b, o, none⟩ = W0.cell? ⟨b, o, none⟩ := fun b o hb => hW.cell (p := ⟨b, o, none⟩) (by show b < _; omega)
    have hf : ∀ b o, b < w.heap.size + 2 → W.frozen? ⟨b, o, none⟩ = W0.frozen? ⟨b, o, none⟩ := fun b o hb => hW.frozen (p := ⟨b, o, none⟩) (by show b < _; omega)
    refine ⟨⟨?_, ?_, ?_, ?_, ?_⟩, ⟨?_, ?_, ?_, ?_⟩, hB0.trans (hW.mono hB0.size), by have := hW.size; omega⟩
    · rw [hc _ _ (by omega), hW0]; simp
    · rw [hc _ _ (by omega), hW0]; simp
    · rw [hc _ _ (by omega), hW0]; simp
    · rw [hc _ _ (by omega), hW0]; simp
    · rw [hc _ _ (by omega), hW0]; simp
    · rw [hc _ _ (by omega), hW0]; simp
    · rw [hc _ _ (by omega), hW0]; simp
    · rw [hf _ _ (by omega), hW0]; simp
    · rw [hf _ _ (by omega), hW0]; simp)
  obtain ⟨ll, hll⟩ : ∃ ll, ll = xs.length := ⟨_, rfl⟩
  rw [← hll] at HK HB ⊢ hW0
  have HW0 := Lib.hid hW0
  clear hI hok hll hW0 hB0
  have e0 := HW0.out
  obtain ⟨⟨c0, c1, c2, c3, c4⟩, -, -, -⟩ := HB.out W0 (Below.refl _ _)
  have hd1 : decide (t < 0) = false := decide_eq_false (by omega)
  have hd2 : decide ((16777216 : Int) ≤ t) = false := decide_eq_false (by omega)
  go_enter Try.func38, Try.ntmps38
  go_wp2_with fail
  try rw [← e0]
  refine HK.out.mono ?_
  rintro r w2 ⟨rfl, hb2⟩
  obtain ⟨⟨d0, d1, d2, d3, d4⟩, ⟨f0, f1, f2, f3⟩, hbb, hlt⟩ := HB.out w2 hb2
  have HBB := Lib.hid hbb
  clear hb2 hbb c0 c1 c2 c3 c4 e0
  go_wp2
  refine bodyPost_ret (v := .tuple #[.agg #[.string ⟨#[]⟩, .int .i64 t], .int .i64 1]) (by simp [results, Try.results38, go_sem, f0, f1]) rfl ⟨rfl, ?_⟩
  exact (HBB.out.setCell (p := ⟨w.heap.size + 1, 0, none⟩) (Nat.le_succ _) _).setCell (p := ⟨w.heap.size + 1, 1, none⟩) (Nat.le_succ _) _
set_option maxHeartbeats 1600000 in
theorem heldOf_tid (P : Nat) (e : En) (w : World) (ht : ¬ (0 ≤ e.t ∧ e.t < 16777216)) :
    Calls Try.prog 38 #[.pointer (some ⟨P, 0, none⟩), e.v] w fun r w' => r = .returned (.tuple #[.agg #[.string ⟨#[]⟩, .int .i64 0], .int .i64 1]) ∧ Below w.heap.size w w' := by
  obtain ⟨k, n, s, a, xs, lc, t⟩ := e
  unfold En.v
  simp only []
  have ht : ¬ (0 ≤ t ∧ t < 16777216) := ht
  obtain ⟨ll, hll⟩ : ∃ ll, ll = xs.length := ⟨_, rfl⟩
  rw [← hll]
  clear hll
  by_cases h0 : t < 0
  · have hd1 : decide (t < 0) = true := decide_eq_true h0
    clear ht
    go_enter Try.func38, Try.ntmps38
    go_wp2
    refine bodyPost_ret (v := .tuple #[.agg #[.string ⟨#[]⟩, .int .i64 0], .int .i64 1]) (by simp [results, Try.results38, go_sem]) rfl ⟨rfl, ?_⟩
    first | exact ((Below.refl _ _).alloc (Nat.le_refl _) _).alloc (by simp) _ | exact (((((Below.refl _ _).alloc (Nat.le_refl _) _).alloc (by simp) _).setCell (p := ⟨w.heap.size + 1, 0, none⟩) (Nat.le_succ _) _).setCell (p := ⟨w.heap.size + 1, 1, none⟩) (Nat.le_succ _) _)
  · have hd1 : decide (t < 0) = false := decide_eq_false h0
    have hd2 : decide ((16777216 : Int) ≤ t) = true := decide_eq_true (by omega)
    clear ht
    go_enter Try.func38, Try.ntmps38
    go_wp2
    refine bodyPost_ret (v := .tuple #[.agg #[.string ⟨#[]⟩, .int .i64 0], .int .i64 1]) (by simp [results, Try.results38, go_sem]) rfl ⟨rfl, ?_⟩
    first | exact ((Below.refl _ _).alloc (Nat.le_refl _) _).alloc (by simp) _ | exact (((((Below.refl _ _).alloc (Nat.le_refl _) _).alloc (by simp) _).setCell (p := ⟨w.heap.size + 1, 0, none⟩) (Nat.le_succ _) _).setCell (p := ⟨w.heap.size + 1, 1, none⟩) (Nat.le_succ _) _)

/-- What may not be: whatever is told of it. -/
theorem heldOf_bad (P : Nat) (e : En) (w : World) (hP : w.cell? ⟨P, 0, none⟩ = some (.pointer (some ⟨P, 0, none⟩))) (hPl : P < w.heap.size) (hI : e.In w) (hm : mayE e.c = false) :
    Calls Try.prog 38 #[.pointer (some ⟨P, 0, none⟩), e.v] w fun r w' => ∃ kk tt, r = .returned (.tuple #[.agg #[.string kk, .int .i64 tt], .int .i64 1]) ∧ Below w.heap.size w w' := by
  by_cases ht : 0 ≤ e.t ∧ e.t < 16777216
  · have hok : e.ok = false := by
      unfold mayE at hm
      rw [decide_eq_true (show 0 ≤ e.c.2 ∧ e.c.2 < 16777216 from ht), Bool.true_and, show e.c.1.ok = e.ok from e.ok_d] at hm
      exact hm
    exact (heldOf_key P e w hP hPl hI ht.1 ht.2 hok).mono (fun r w' h => ⟨_, _, h.1, h.2⟩)
  · exact (heldOf_tid P e w ht).mono (fun r w' h => ⟨_, _, h.1, h.2⟩)

set_option maxHeartbeats 1600000 in
/-- Insert of what may not be. -/
theorem ins_bad (P : Nat) (e : En) (w : World) (hP : w.cell? ⟨P, 0, none⟩ = some (.pointer (some ⟨P, 0, none⟩))) (hPl : P < w.heap.size) (hI : e.In w) (hm : mayE e.c = false) :
    Calls Try.prog 24 #[.pointer (some ⟨P, 0, none⟩), e.v] w fun r w' => r = .returned (.int .i64 1) ∧ Below w.heap.size w w' := by
  have HH : Hid (∀ W, Below w.heap.size w W → Calls Try.prog 38 #[.pointer (some ⟨P, 0, none⟩), e.v] W fun r w' => ∃ kk tt, r = .returned (.tuple #[.agg #[.string kk, .int .i64 tt], .int .i64 1]) ∧ Below W.heap.size W w') := Lib.hid (fun W hW =>
    heldOf_bad P e W ((hW.cell (p := ⟨P, 0, none⟩) hPl).trans hP) (Nat.lt_of_lt_of_le hPl hW.size) ⟨hI.sl.below hW (Nat.le_refl _), hI.n, hI.ns, hI.t⟩ hm)
  obtain ⟨k, n, s, a, xs, lc, t⟩ := e
  unfold En.v at HH ⊢
  simp only [] at HH ⊢
  obtain ⟨ll, hll⟩ : ∃ ll, ll = xs.length := ⟨_, rfl⟩
  rw [← hll] at HH ⊢
  clear hI hm hll hP
  go_enter Try.func24, Try.ntmps24
  go_wp2_with fail
  refine (HH.out _ ((Below.refl _ _).alloc (Nat.le_refl _) _)).mono ?_
  rintro r w1 ⟨kk, tt, rfl, hb1⟩
  have HB1 : Hid (Below w.heap.size w w1) := Lib.hid (below_al _ hb1)
  clear hb1
  go_wp2
  go_quiet (fail)
  go_wp2
  go_ret
  exact ⟨rfl, (HB1.out.alloc HB1.out.size _).trans ⟨rfl, rfl, rfl, Nat.le_refl _, fun _ _ => rfl⟩⟩

set_option maxHeartbeats 1600000 in
/-- Insert of what may be: as put says. -/
theorem ins_any (P : Nat) (e : En) (w : World) (b : Bool) (Q : World → World → Prop) (hP : w.cell? ⟨P, 0, none⟩ = some (.pointer (some ⟨P, 0, none⟩))) (hPl : P < w.heap.size) (hI : e.In w) (hm : mayE e.c = true)
    (hput : ∀ W, Below w.heap.size w W → Calls Try.prog 39 #[.pointer (some ⟨P, 1, none⟩), hdV (hOf e.c)] W fun r w' => r = .returned (.bool b) ∧ Q W w') :
    Calls Try.prog 24 #[.pointer (some ⟨P, 0, none⟩), e.v] w fun r w' => r = .returned (.int .i64 (if b = true then 0 else 160)) ∧ ∃ W, Below w.heap.size w W ∧ Q W w' := by
  have HH : Hid (∀ W, Below w.heap.size w W → Calls Try.prog 38 #[.pointer (some ⟨P, 0, none⟩), e.v] W fun r w' => r = .returned (.tuple #[hdV (hOf e.c), .int .i64 0]) ∧ Below W.heap.size W w') := Lib.hid (fun W hW =>
    heldOf_ok P e W ((hW.cell (p := ⟨P, 0, none⟩) hPl).trans hP) (Nat.lt_of_lt_of_le hPl hW.size) ⟨hI.sl.below hW (Nat.le_refl _), hI.n, hI.ns, hI.t⟩ hm)
  obtain ⟨hk, hkk⟩ : ∃ hk, hk = hOf e.c := ⟨_, rfl⟩
  rw [← hkk] at HH hput
  obtain ⟨xk, xt⟩ := hk
  unfold hdV at HH hput
  simp only [] at HH hput
  have HPUT := Lib.hid hput
  obtain ⟨k, n, s, a, xs, lc, t⟩ := e
  unfold En.v at HH ⊢
  simp only [] at HH ⊢
  obtain ⟨ll, hll⟩ : ∃ ll, ll = xs.length := ⟨_, rfl⟩
  rw [← hll] at HH ⊢
  clear hI hm hll hP hput hkk
  cases b with
  | true =>
    go_enter Try.func24, Try.ntmps24
    go_wp2_with fail
    refine (HH.out _ ((Below.refl _ _).alloc (Nat.le_refl _) _)).mono ?_
    rintro r w1 ⟨rfl, hb1⟩
    have HB1 : Hid (Below w.heap.size w w1) := Lib.hid (below_al _ hb1)
    clear hb1
    go_wp2
    go_region_law (go_simp; go_at_call 39; refine (HPUT.out _ (HB1.out.alloc HB1.out.size _).drew).mono ?_; rintro r w2 ⟨rfl, hq⟩)
    all_goals
      have HQ := Lib.hid hq
      clear hq
      go_wp2
      go_ret
      exact ⟨rfl, _, (HB1.out.alloc HB1.out.size _).drew, HQ.out⟩
  | false =>
    go_enter Try.func24, Try.ntmps24
    go_wp2_with fail
    refine (HH.out _ ((Below.refl _ _).alloc (Nat.le_refl _) _)).mono ?_
    rintro r w1 ⟨rfl, hb1⟩
    have HB1 : Hid (Below w.heap.size w w1) := Lib.hid (below_al _ hb1)
    clear hb1
    go_wp2
    go_region_law (go_simp; go_at_call 39; refine (HPUT.out _ (HB1.out.alloc HB1.out.size _).drew).mono ?_; rintro r w2 ⟨rfl, hq⟩)
    all_goals
      have HQ := Lib.hid hq
      clear hq
      go_wp2
      go_ret
      exact ⟨rfl, _, (HB1.out.alloc HB1.out.size _).drew, HQ.out⟩
end Go.Proofs.Ytnnmigglcpkomaa.Dm

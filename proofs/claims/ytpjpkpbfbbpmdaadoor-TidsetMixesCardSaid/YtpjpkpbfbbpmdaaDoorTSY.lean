/- The document's New and Add. -/
import Derived.Test.YtpjpkpbfbbpmdaaDoorTSX
set_option maxRecDepth 100000
namespace Go.Proofs.YtpjpkpbfbbpmdaaDoor.Ts
open Go Go.RowKit

theorem tset_zero (w : World) (t : TypeId) (x0 x1 x2 : Value) (y0 y1 y2 : Value) :
    ((((w.alloc (.cells #[x0, x1, x2] t)).setCell ⟨w.heap.size, 0, none⟩ y0).setCell ⟨w.heap.size, 1, none⟩ y1).setCell ⟨w.heap.size, 2, none⟩ y2).heap[w.heap.size]? = some (.cells #[y0, y1, y2] t (0, 0)) :=
  three (heap_alloc_new w _) y0 y1 y2

set_option maxHeartbeats 800000 in
theorem rnew_bad (most : Int) (w : World) (h : most < 0 ∨ 64 < most) : Calls Tryd.prog 22 #[.int .i64 most] w fun e w' => e = .returned (.tuple #[rv 0 none 0 0 none 0 0, .int .i64 1]) ∧ Below w.heap.size w w' := by
  rcases (by omega : most < 0 ∨ (0 ≤ most ∧ 64 < most)) with h | ⟨h1, h⟩
  all_goals
    go_enter Tryd.func22, Tryd.ntmps22
    go_wp2
    exact bodyPost_ret (v := .tuple #[rv 0 none 0 0 none 0 0, .int .i64 1]) (by simp [results, Tryd.results22, go_sem, rv]) rfl ⟨rfl, (Below.refl _ _).alloc (Nat.le_refl _) _⟩
set_option maxHeartbeats 800000 in
theorem rnew_ok (most : Nat) (w : World) (h : most ≤ 64) : Calls Tryd.prog 22 #[.int .i64 most] w fun e w' => e = .returned (.tuple #[rv most none 0 0 none 0 0, .int .i64 0]) ∧ Below w.heap.size w w' := by
  have h1 : (most : Int) ≤ 64 := by omega
  go_enter Tryd.func22, Tryd.ntmps22
  go_wp2
  exact bodyPost_ret (v := .tuple #[rv most none 0 0 none 0 0, .int .i64 0]) (by simp [results, Tryd.results22, go_sem, rv]) rfl ⟨rfl, (Below.refl _ _).alloc (Nat.le_refl _) _⟩
theorem rat_new (S : Nat → Prop) (w : World) (most : Nat) : RAt S w ⟨most, [], []⟩ (rv most none 0 0 none 0 0) := ⟨none, 0, 0, none, 0, 0, rfl, rfl, rfl, .inl rfl, .inl rfl⟩

set_option maxHeartbeats 1600000 in
theorem radd_bad (v : Value) (hv : ∃ m a n c a' n' c', v = rv m a n c a' n' c') (t : Int) (w : World) (h : ¬ (0 ≤ t ∧ t < 16777216)) : Calls Tryd.prog 23 #[v, .int .i64 t] w fun e w' => e = .returned (.tuple #[v, .int .i64 1]) ∧ Below w.heap.size w w' := by
  obtain ⟨m, a, n, c, a', n', c', rfl⟩ := hv
  unfold rv
  rcases (by omega : t < 0 ∨ (0 ≤ t ∧ 16777216 ≤ t)) with h | ⟨h1, h⟩
  all_goals
    go_enter Tryd.func23, Tryd.ntmps23
    go_wp2
    exact bodyPost_ret (v := .tuple #[.agg #[.int .i64 (m : Int), .slice a n c, .slice a' n' c'], .int .i64 1]) (by simp [results, Tryd.results23, go_sem]) rfl ⟨rfl, ((Below.refl _ _).alloc (Nat.le_refl _) _).alloc (by simp) _⟩

/-- What the document's Add leaves. -/
def RAddPost (S : Nat → Prop) (s : Tset) (t : Nat) (w : World) (e : Ending) (w' : World) : Prop :=
  ∃ s' v', e = .returned (.tuple #[v', .int .i64 0]) ∧ AddTo s t s' ∧ RAt S w' s' v' ∧ Below w.heap.size w w'
set_option maxHeartbeats 3200000 in
theorem radd_ok {S : Nat → Prop} {w : World} {s : Tset} {v : Value} (h : RAt S w s v) (hk : s.Ok) (t : Nat) (ht : t < 16777216) (hS : ∀ k, S k → k < w.heap.size) :
    Calls Tryd.prog 23 #[v, .int .i64 t] w (RAddPost S s t w) := by
  obtain ⟨a, n, c, a', n', c', rfl, hn, hn', hT, hP⟩ := h
  have hl : n ≤ 64 := by rw [hn]; exact Nat.le_trans hk.few hk.most
  have hl2 : n' ≤ 262144 := by rw [hn']; exact raw_few hk.raw
  obtain ⟨m, hm⟩ : ∃ m, m = s.most := ⟨_, rfl⟩
  have hm64 : m ≤ 64 := by rw [hm]; exact hk.most
  rw [← hm]
  obtain ⟨W1, hW1⟩ : ∃ W1, W1 = (w.alloc (.cells #[.int .i64 (m : Int), .slice a n c, .slice a' n' c'] 27)).alloc (.cells #[.int .i64 0, .slice none 0 0, .slice none 0 0] 27) := ⟨_, rfl⟩
  have hb1 : Below w.heap.size w W1 := by rw [hW1]; exact ((Below.refl _ _).alloc (Nat.le_refl _) _).alloc (by simp) _
  obtain ⟨B, hB⟩ : ∃ B, B = w.heap.size := ⟨_, rfl⟩
  have hk0 : W1.heap[B]? = some (.cells #[.int .i64 (m : Int), .slice a n c, .slice a' n' c'] 27 (0, 0)) := by
    rw [hW1, hB]
    have e1 : ((w.alloc (.cells #[.int .i64 (m : Int), .slice a n c, .slice a' n' c'] 27)).alloc (.cells #[.int .i64 0, .slice none 0 0, .slice none 0 0] 27)).heap[w.heap.size]? = (w.alloc (.cells #[.int .i64 (m : Int), .slice a n c, .slice a' n' c'] 27)).heap[w.heap.size]? := Below.heap_alloc _ _ _ (by simp)
    exact e1.trans (heap_alloc_new w _)
  have hk1 : W1.heap[B + 1]? = some (.cells #[.int .i64 0, .slice none 0 0, .slice none 0 0] 27 (0, 0)) := by
    rw [hW1, hB]
    have := heap_alloc_new (w.alloc (.cells #[.int .i64 (m : Int), .slice a n c, .slice a' n' c'] 27)) (.cells #[.int .i64 0, .slice none 0 0, .slice none 0 0] 27)
    simpa using this
  have hz1 : W1.heap.size = B + 2 := by rw [hW1, hB]; simp
  have hmo : ∀ k, (S k ∨ k = B ∨ k = B + 1) → S k ∨ w.heap.size ≤ k := by
    rintro k (h | h | h)
    · exact .inl h
    · exact .inr (by omega)
    · exact .inr (by omega)
  have hT1 : NumsS (fun k => S k ∨ k = B ∨ k = B + 1) W1 a s.T := (hT.more hmo).below hb1
  have hP1 : NumsS (fun k => S k ∨ k = B ∨ k = B + 1) W1 a' s.P := (hP.more hmo).below hb1
  have HSX : Hid (∀ k, (S k ∨ k = B ∨ k = B + 1) → k < B + 2) := Lib.hid (by
    rintro k (h | h | h)
    · have := hS k h; omega
    · omega
    · omega)
  have HPG : Hid (∀ W, Calls Tryd.prog 33 #[.int .i64 t] W fun e w' => e = .returned (.int .i64 ((t / 64 : Nat) : Int)) ∧ w' = W) := Lib.hid fun W => (rpage_any t W ht).mono fun _ _ h => ⟨h.1, h.2.symm⟩
  have HIN : Hid (∀ j, Calls Tryd.prog 30 #[.slice a' n' c', .int .i64 ((t / 64 : Nat) : Int)] (W1.drewN j) fun e w' => e = .returned (.bool (decide (t / 64 ∈ s.P))) ∧ w' = W1.drewN j) := Lib.hid fun j => (rin_any c' (hP1.below (belowDrewN W1 j)) hn' (t / 64) (by omega)).mono fun _ _ h => ⟨h.1, h.2.symm⟩
  have HB1 := Lib.hid hb1
  have HW1 := Lib.hid hW1
  have HBE := Lib.hid hB
  have HM := Lib.hid hm
  have HK := Lib.hid hk
  have HT1 := Lib.hid hT1; have HP1 := Lib.hid hP1
  have HN := Lib.hid hn; have HN' := Lib.hid hn'
  have HK0 := Lib.hid hk0; have HK1 := Lib.hid hk1
  have b0 : W1.cell? ⟨B, 0, none⟩ = some (.int .i64 (m : Int)) := Lib.cell_of_heap hk0 0
  have b1 : W1.cell? ⟨B, 1, none⟩ = some (.slice a n c) := Lib.cell_of_heap hk0 1
  have b2 : W1.cell? ⟨B, 2, none⟩ = some (.slice a' n' c') := Lib.cell_of_heap hk0 2
  have r0 : W1.cell? ⟨B + 1, 0, none⟩ = some (.int .i64 0) := Lib.cell_of_heap hk1 0
  have r1 : W1.cell? ⟨B + 1, 1, none⟩ = some (.slice none 0 0) := Lib.cell_of_heap hk1 1
  have r2 : W1.cell? ⟨B + 1, 2, none⟩ = some (.slice none 0 0) := Lib.cell_of_heap hk1 2
  have f1 := froz_of hk0 1
  have q0 := froz_of hk1 0
  have q1 := froz_of hk1 1
  have q2 := froz_of hk1 2
  have ht1 : (t : Int) < 16777216 := by omega
  obtain ⟨pg, hpg⟩ : ∃ pg, pg = t / 64 := ⟨_, rfl⟩
  rw [← hpg] at HPG HIN
  have HPE := Lib.hid hpg
  obtain ⟨z, hz⟩ : ∃ z : Int, z = (t : Int) := ⟨_, rfl⟩
  have hz0 : 0 ≤ z := by omega
  have hz9 : z < 16777216 := by omega
  rw [← hz] at HPG ⊢
  have HZ := Lib.hid hz
  unfold rv
  by_cases hp : pg ∈ s.P
  · have HP := Lib.hid hp
    rw [decide_eq_true hp] at HIN
    have HE : Hid (∀ j, (((W1.drewN j).setCell ⟨B + 1, 0, none⟩ (.int .i64 (m : Int))).setCell ⟨B + 1, 1, none⟩ (.slice a n c)).setCell ⟨B + 1, 2, none⟩ (.slice a' n' c') = (((W1.drewN j).setCell ⟨B + 1, 0, none⟩ (.int .i64 (m : Int))).setCell ⟨B + 1, 1, none⟩ (.slice a n c)).setCell ⟨B + 1, 2, none⟩ (.slice a' n' c') ∧
        ((((W1.drewN j).setCell ⟨B + 1, 0, none⟩ (.int .i64 (m : Int))).setCell ⟨B + 1, 1, none⟩ (.slice a n c)).setCell ⟨B + 1, 2, none⟩ (.slice a' n' c')).heap[B + 1]? = some (.cells #[.int .i64 (m : Int), .slice a n c, .slice a' n' c'] 27 (0, 0)) ∧
        RAddPost S s t w (.returned (.tuple #[.agg #[.int .i64 (m : Int), .slice a n c, .slice a' n' c'], .int .i64 0])) ((((W1.drewN j).setCell ⟨B + 1, 0, none⟩ (.int .i64 (m : Int))).setCell ⟨B + 1, 1, none⟩ (.slice a n c)).setCell ⟨B + 1, 2, none⟩ (.slice a' n' c'))) := Lib.hid fun j => by
      have h3 := three (w := W1.drewN j) HK1.out (.int .i64 (m : Int)) (.slice a n c) (.slice a' n' c')
      have hk3 := three_kept (fun k => S k ∨ k = B ∨ k = B + 1) (w := W1.drewN j) (b := B + 1) (.inr (.inr rfl)) (.int .i64 (m : Int)) (.slice a n c) (.slice a' n' c')
      have hk4 := three_kept (fun k => k = B + 1) (w := W1.drewN j) (b := B + 1) rfl (.int .i64 (m : Int)) (.slice a n c) (.slice a' n' c')
      refine ⟨rfl, h3, s, _, rfl, ⟨rfl, .inl ⟨by rw [← HPE.out]; exact HP.out, rfl⟩⟩, ⟨a, n, c, a', n', c', by rw [← HM.out]; rfl, HN.out, HN'.out, ((HT1.out.below (belowDrewN W1 j)).kept hk3).mono (fun _ e => .inl e), ((HP1.out.below (belowDrewN W1 j)).kept hk3).mono (fun _ e => .inl e)⟩,
        (HB1.out.trans ((belowDrewN W1 j).mono HB1.out.size)).trans (hk4.toBelow (by have := HB1.out.size; exact this) (fun k e => by have := HBE.out; omega))⟩
    clear hn hn' hT hP hk hS hm hW1 hb1 hB hk0 hk1 hmo hT1 hP1 hpg hp hz ht ht1
    go_enter Tryd.func23, Tryd.ntmps23
    go_wp2_with fail
    rw [← HW1.out, ← HBE.out]
    go_quiet ((first
      | (go_at_call 33; exact Calls.quiet_of_same (HPG.out _))
      | (go_at_call 30; exact Calls.quiet_of_same (HIN.out _))))
    go_wp2
    exact bodyPost_ret (v := .tuple #[.agg #[.int .i64 (m : Int), .slice a n c, .slice a' n' c'], .int .i64 0]) (by
      have h3 := (HE.out nq).2.1
      have e0 := Lib.cell_of_heap h3 0
      have e1 := Lib.cell_of_heap h3 1
      have e2 := Lib.cell_of_heap h3 2
      simp [results, Tryd.results23, go_sem, e0, e1, e2]) rfl (HE.out _).2.2
  · rw [decide_eq_false hp] at HIN
    have HP := Lib.hid hp
    have HPU : Hid (∀ j, Calls Tryd.prog 31 #[.slice a n c, .int .i64 z] (W1.drewN j) (RList (fun k => S k ∨ k = B ∨ k = B + 1) (ins t s.T) (W1.drewN j))) := Lib.hid fun j => by
      rw [hz]
      exact rput_any c (hT1.below (belowDrewN W1 j)) hn t (by omega) (fun k e => by have := HSX.out k e; show k < W1.heap.size; omega) hk.raw.st
    clear hn hn' hT hP hk hS hm hW1 hb1 hB hk0 hk1 hmo hT1 hP1 hpg hp hz ht1
    go_enter Tryd.func23, Tryd.ntmps23
    go_wp2_with fail
    rw [← HW1.out, ← HBE.out]
    go_quiet ((first
      | (go_at_call 33; exact Calls.quiet_of_same (HPG.out _))
      | (go_at_call 30; exact Calls.quiet_of_same (HIN.out _))))
    go_wp2_with fail
    refine (HPU.out _).mono ?_
    rintro e w2 ⟨a2, c2, rfl, h2, hb2⟩
    obtain ⟨n2, hn2⟩ : ∃ n2, n2 = (ins t s.T).length := ⟨_, rfl⟩
    rw [← hn2]
    have hB0 : w2.heap[B]? = some (.cells #[.int .i64 (m : Int), .slice a n c, .slice a' n' c'] 27 (0, 0)) := (hb2.block B (by show B < W1.heap.size; omega)).trans HK0.out
    have hB1 : w2.heap[B + 1]? = some (.cells #[.int .i64 0, .slice none 0 0, .slice none 0 0] 27 (0, 0)) := (hb2.block (B + 1) (by show B + 1 < W1.heap.size; omega)).trans HK1.out
    have hb12 : Below W1.heap.size W1 w2 := (belowDrewN W1 _).trans hb2
    have hz2 : B + 2 ≤ w2.heap.size := by have := hb12.size; omega
    have g1 := froz_of hB0 1
    have d1 : w2.cell? ⟨B, 1, none⟩ = some (.slice a n c) := Lib.cell_of_heap hB0 1
    obtain ⟨W3, hW3⟩ : ∃ W3, W3 = w2.setCell ⟨B, 1, none⟩ (.slice a2 n2 c2) := ⟨_, rfl⟩
    have hk3 : Kept (fun k => S k ∨ k = B ∨ k = B + 1) w2 W3 := by rw [hW3]; exact Kept.setCell _ _ (.inr (.inl rfl)) _
    have hk3' : Kept (fun k => k = B) w2 W3 := by rw [hW3]; exact Kept.setCell (fun k => k = B) _ (b := B) (i := 1) rfl _
    have hB03 : W3.heap[B]? = some (.cells #[.int .i64 (m : Int), .slice a2 n2 c2, .slice a' n' c'] 27 (0, 0)) := by
      have := heap_setCell_same w2 B 1 _ 27 (.slice a2 n2 c2) hB0
      rw [hW3]
      simpa using this
    have hB13 : W3.heap[B + 1]? = some (.cells #[.int .i64 0, .slice none 0 0, .slice none 0 0] 27 (0, 0)) := (hk3'.block (B + 1) (by omega) (by omega)).trans hB1
    have e0 : w2.cell? ⟨B, 0, none⟩ = some (.int .i64 (m : Int)) := Lib.cell_of_heap hB0 0
    have e2 : w2.cell? ⟨B, 2, none⟩ = some (.slice a' n' c') := Lib.cell_of_heap hB0 2
    have hraw : Raw (ins t s.T) s.P := HK.out.raw.add ht (by rw [← HPE.out]; exact HP.out)
    have hlen : n2 ≤ 1000 := by rw [hn2]; have h9 := length_ins_le t s.T; have h8 := HK.out.few; have h7 := HK.out.most; omega
    have HDG := Lib.hid (rdegrades_any (c := c2) (c' := c') hn2 HN'.out (h2.kept hk3) (((HP1.out.below hb12)).kept hk3) hraw hlen hm64 (fun k e => by have := HSX.out k e; have := hk3.size; omega))
    have HB3 : Hid (Below w.heap.size w W3) := Lib.hid ((HB1.out.trans (hb12.mono HB1.out.size)).trans (hk3'.toBelow (by have := HBE.out; omega) (fun k e => by have := HBE.out; omega)))
    have HB13 := Lib.hid hB13
    have HW3 := Lib.hid hW3
    have hz3 : B + 2 ≤ W3.heap.size := by have := hk3.size; omega
    clear hn2 h2 hb2 hB0 hB1 hb12 hk3 hk3' hB03 hB13 hraw hlen hW3
    go_wp2_with fail
    rw [← HW3.out]
    refine HDG.out.mono ?_
    rintro e w4 ⟨T', P', v, rfl, hd, ⟨a5, n5, c5, a6, n6, c6, rfl, k1, k2, k3, k4⟩, hb4⟩
    simp only [] at k1 k2 k3 k4
    have hB14 : w4.heap[B + 1]? = some (.cells #[.int .i64 0, .slice none 0 0, .slice none 0 0] 27 (0, 0)) := (hb4.block (B + 1) (by omega)).trans HB13.out
    have x0 : w4.cell? ⟨B + 1, 0, none⟩ = some (.int .i64 0) := Lib.cell_of_heap hB14 0
    have x1 : w4.cell? ⟨B + 1, 1, none⟩ = some (.slice none 0 0) := Lib.cell_of_heap hB14 1
    have x2 : w4.cell? ⟨B + 1, 2, none⟩ = some (.slice none 0 0) := Lib.cell_of_heap hB14 2
    have y0 := froz_of hB14 0
    have y1 := froz_of hB14 1
    have y2 := froz_of hB14 2
    have HE : Hid (((((w4).setCell ⟨B + 1, 0, none⟩ (.int .i64 (m : Int))).setCell ⟨B + 1, 1, none⟩ (.slice a5 n5 c5)).setCell ⟨B + 1, 2, none⟩ (.slice a6 n6 c6)).heap[B + 1]? = some (.cells #[.int .i64 (m : Int), .slice a5 n5 c5, .slice a6 n6 c6] 27 (0, 0)) ∧
        RAddPost S s t w (.returned (.tuple #[.agg #[.int .i64 (m : Int), .slice a5 n5 c5, .slice a6 n6 c6], .int .i64 0])) ((((w4).setCell ⟨B + 1, 0, none⟩ (.int .i64 (m : Int))).setCell ⟨B + 1, 1, none⟩ (.slice a5 n5 c5)).setCell ⟨B + 1, 2, none⟩ (.slice a6 n6 c6))) := Lib.hid (by
      have h3 := three hB14 (.int .i64 (m : Int)) (.slice a5 n5 c5) (.slice a6 n6 c6)
      have hk3 := three_kept (fun k => S k ∨ k = B ∨ k = B + 1) (w := w4) (b := B + 1) (.inr (.inr rfl)) (.int .i64 (m : Int)) (.slice a5 n5 c5) (.slice a6 n6 c6)
      have hk4 := three_kept (fun k => k = B + 1) (w := w4) (b := B + 1) rfl (.int .i64 (m : Int)) (.slice a5 n5 c5) (.slice a6 n6 c6)
      refine ⟨h3, ⟨m, T', P'⟩, _, rfl, ⟨HM.out, .inr ⟨by rw [← HPE.out]; exact HP.out, by rw [← HM.out]; exact hd⟩⟩, ⟨a5, n5, c5, a6, n6, c6, rfl, k1, k2, (k3.kept hk3).mono (fun _ e => .inl e), (k4.kept hk3).mono (fun _ e => .inl e)⟩, ?_⟩
      exact (HB3.out.trans (hb4.mono HB3.out.size)).trans (hk4.toBelow (by have := HB3.out.size; have := hb4.size; omega) (fun k e => by have := HBE.out; omega)))
    clear hd k1 k2 k3 k4 hb4 hB14 HDG
    unfold rv
    go_wp2
    exact bodyPost_ret (v := .tuple #[.agg #[.int .i64 (m : Int), .slice a5 n5 c5, .slice a6 n6 c6], .int .i64 0]) (by
      have h3 := HE.out.1
      have e0 := Lib.cell_of_heap h3 0
      have e1 := Lib.cell_of_heap h3 1
      have e2 := Lib.cell_of_heap h3 2
      simp [results, Tryd.results23, go_sem, e0, e1, e2]) rfl HE.out.2
end Go.Proofs.YtpjpkpbfbbpmdaaDoor.Ts

/- The document's Has. -/
import Derived.Test.YtpjpkpbfbbpmdaaDoorTTC
set_option maxRecDepth 100000
namespace Go.Proofs.YtpjpkpbfbbpmdaaDoor.Ts
open Go Go.RowKit

theorem hasB_nat {s : Tset} {t : Nat} (ht : t < 16777216) : hasB s (t : Int) = (decide (t ∈ s.T) || decide (t / 64 ∈ s.P)) := by
  rw [Bool.eq_iff_iff, hasB_iff, Bool.or_eq_true, decide_eq_true_eq, decide_eq_true_eq, Int.toNat_natCast]
  unfold Tset.has
  exact ⟨fun h => h.2, fun h => ⟨⟨by omega, by omega⟩, h⟩⟩
theorem hasB_out {s : Tset} {t : Int} (ht : ¬ Adr t) : hasB s t = false := by
  cases h : hasB s t
  · rfl
  · exact absurd (hasB_iff.1 h).1 ht

set_option maxHeartbeats 1600000 in
theorem rhas_any {S : Nat → Prop} {w : World} {s : Tset} {v : Value} (h : RAt S w s v) (hk : s.Ok) (t : Int) :
    Calls Tryd.prog 29 #[v, .int .i64 t] w fun e w' => e = .returned (.bool (hasB s t)) ∧ Below w.heap.size w w' := by
  obtain ⟨a, n, c, a', n', c', rfl, hn, hn', hT, hP⟩ := h
  have hl : n ≤ 64 := by rw [hn]; exact Nat.le_trans hk.few hk.most
  have hl2 : n' ≤ 262144 := by rw [hn']; exact raw_few hk.raw
  obtain ⟨m, hm⟩ : ∃ m, m = s.most := ⟨_, rfl⟩
  rw [← hm]
  obtain ⟨W1, hW1⟩ : ∃ W1, W1 = w.alloc (.cells #[.int .i64 (m : Int), .slice a n c, .slice a' n' c'] 27) := ⟨_, rfl⟩
  have hb1 : Below w.heap.size w W1 := by rw [hW1]; exact (Below.refl _ _).alloc (Nat.le_refl _) _
  obtain ⟨B, hB⟩ : ∃ B, B = w.heap.size := ⟨_, rfl⟩
  have hk0 : W1.heap[B]? = some (.cells #[.int .i64 (m : Int), .slice a n c, .slice a' n' c'] 27 (0, 0)) := by
    rw [hW1, hB]; exact heap_alloc_new w _
  have b1 : W1.cell? ⟨B, 1, none⟩ = some (.slice a n c) := Lib.cell_of_heap hk0 1
  have b2 : W1.cell? ⟨B, 2, none⟩ = some (.slice a' n' c') := Lib.cell_of_heap hk0 2
  have HB1 := Lib.hid hb1
  have HW1 := Lib.hid hW1
  have HBE := Lib.hid hB
  have HBJ : Hid (∀ j, Below w.heap.size w (W1.drewN j)) := Lib.hid fun j => bel3 hb1 (belowDrewN W1 j)
  rcases (by omega : t < 0 ∨ 16777216 ≤ t ∨ (0 ≤ t ∧ t < 16777216)) with hneg | hbig | ⟨h0, hM⟩
  · have hna : ¬ Adr t := fun h => by have := h.1; omega
    rw [hasB_out hna]
    have hd0 : decide (0 ≤ t) = false := decide_eq_false (by omega)
    clear hna hn hn' hT hP hk hm hW1 hb1 hB hk0
    unfold rv
    go_enter Tryd.func29, Tryd.ntmps29
    go_wp2_with fail
    rw [← HW1.out]
    rw [← HBE.out]
    go_quiet (fail)
    go_wp2
    go_ret
    exact ⟨rfl, HBJ.out _⟩
  · have hna : ¬ Adr t := fun h => by have := h.2; omega
    rw [hasB_out hna]
    have hd0 : decide (0 ≤ t) = true := decide_eq_true (by omega)
    have hd1 : decide (t < 16777216) = false := decide_eq_false (by omega)
    clear hna hn hn' hT hP hk hm hW1 hb1 hB hk0
    unfold rv
    go_enter Tryd.func29, Tryd.ntmps29
    go_wp2_with fail
    rw [← HW1.out, ← HBE.out]
    go_quiet (fail)
    go_wp2
    go_ret
    exact ⟨rfl, HBJ.out _⟩
  · obtain ⟨k, rfl⟩ : ∃ k : Nat, t = k := ⟨t.toNat, by omega⟩
    have hk9 : k < 16777216 := by omega
    rw [hasB_nat hk9]
    have HIN : Hid (∀ j, Calls Tryd.prog 30 #[.slice a n c, .int .i64 k] (W1.drewN j) fun e w' => e = .returned (.bool (decide (k ∈ s.T))) ∧ w' = W1.drewN j) := Lib.hid fun j => (rin_any c ((hT.below hb1).below (belowDrewN W1 j)) hn k (by omega)).mono fun _ _ h => ⟨h.1, h.2.symm⟩
    have HIP : Hid (∀ j, Calls Tryd.prog 30 #[.slice a' n' c', .int .i64 ((k / 64 : Nat) : Int)] (W1.drewN j) fun e w' => e = .returned (.bool (decide (k / 64 ∈ s.P))) ∧ w' = W1.drewN j) := Lib.hid fun j => (rin_any c' ((hP.below hb1).below (belowDrewN W1 j)) hn' (k / 64) (by omega)).mono fun _ _ h => ⟨h.1, h.2.symm⟩
    have HPG : Hid (∀ W, Calls Tryd.prog 33 #[.int .i64 k] W fun e w' => e = .returned (.int .i64 ((k / 64 : Nat) : Int)) ∧ w' = W) := Lib.hid fun W => (rpage_any k W hk9).mono fun _ _ h => ⟨h.1, h.2.symm⟩
    obtain ⟨q, hq⟩ : ∃ q, q = k / 64 := ⟨_, rfl⟩
    obtain ⟨u1, hu1⟩ : ∃ u, u = decide (k ∈ s.T) := ⟨_, rfl⟩
    obtain ⟨u2, hu2⟩ : ∃ u, u = decide (k / 64 ∈ s.P) := ⟨_, rfl⟩
    rw [← hu1] at HIN ⊢
    rw [← hu2] at HIP ⊢
    rw [← hq] at HPG HIP
    obtain ⟨z, hz⟩ : ∃ z : Int, z = (k : Int) := ⟨_, rfl⟩
    rw [← hz] at HPG HIN ⊢
    have hd0 : decide (0 ≤ z) = true := decide_eq_true (by omega)
    have hd1 : decide (z < 16777216) = true := decide_eq_true (by omega)
    clear hn hn' hT hP hk hm hW1 hb1 hB hk0 hq hu1 hu2 hk9 h0 hM hz
    unfold rv
    cases u1 <;> cases u2
    all_goals
      go_enter Tryd.func29, Tryd.ntmps29
      go_wp2_with fail
      rw [← HW1.out, ← HBE.out]
      go_quiet ((first
        | (go_at_call 33; exact Calls.quiet_of_same (HPG.out _))
        | (go_at_call_of 30 c; exact Calls.quiet_of_same (HIN.out _))
        | (go_at_call_of 30 c'; exact Calls.quiet_of_same (HIP.out _))))
      go_wp2
      go_ret
      exact ⟨rfl, HBJ.out _⟩
end Go.Proofs.YtpjpkpbfbbpmdaaDoor.Ts
